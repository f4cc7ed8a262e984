import Derived.Test.YtaipeclmfgdegaaRfThree
/-! FramesSteps: rows of ops. -/
namespace Go.Proofs.Ytaipeclmfgdegaa
open Go.RowKit Go.HeapKit Go.IntWalk

theorem own_sets8 {w : World} {e : TypeId} {s g n cap : Nat} {xs : List Value} (h : w.ownsRow 0 e s (.slice (some ⟨g, 0, none⟩) n cap) n xs) (k : Nat) (vs : List Value) (hk : k + vs.length ≤ n * s) :
    (setsFrom w g k vs).ownsRow 0 e s (.slice (some ⟨g, 0, none⟩) n cap) n (xs.take k ++ vs ++ xs.drop (k + vs.length)) := by
  rcases h.2 with ⟨h0, _⟩ | ⟨g', cap', cur, he, hb, hg, hn, hm, hcs, ht⟩
  · cases h0
  · injection he with e1 e2 e3
    injection e1 with e1
    injection e1 with e1
    subst e1 e3
    have hle : n * s ≤ cap * s := Nat.mul_le_mul_right _ hn
    obtain ⟨c', h1, h2⟩ := setsFrom_block g e vs k w cur hg (by rw [hcs]; omega)
    have hxl : xs.length = n * s := by rw [← ht]; simp; omega
    have hcl : cur.toList.length = cap * s := by simpa using hcs
    refine ⟨by simp only [List.length_append, List.length_take, List.length_drop]; omega, .inr ⟨g, cap, c', rfl, hb, h1, hn, hm, ?_, ?_⟩⟩
    · have := congrArg List.length h2
      simp only [List.length_append, List.length_take, List.length_drop, hcl, Array.length_toList] at this
      omega
    · rw [h2, ← ht]
      apply List.ext_getElem?
      intro i
      simp only [List.getElem?_take, List.getElem?_append, List.length_append, List.length_take, List.getElem?_drop, hcl]
      have e1 : min k (min (n * s) (cap * s)) = k := by omega
      have e2 : min k (cap * s) = k := by omega
      have e3 : min (n * s) (cap * s) = n * s := by omega
      simp only [e2, e3]
      have e4 : min k (n * s) = k := by omega
      simp only [e4]
      by_cases a1 : i < n * s
      · by_cases a2 : i < k + vs.length
        · by_cases a3 : i < k
          · simp [a1, a2, a3]
          · simp [a1, a2, a3]
        · have a4 : k + vs.length + (i - (k + vs.length)) < n * s := by omega
          simp [a1, a2, a4]
      · have a2 : ¬ i < k + vs.length := by omega
        have a4 : ¬ k + vs.length + (i - (k + vs.length)) < n * s := by omega
        simp [a1, a2, a4]
def rowVals {α : Type} (f : α → Array Value) (l : List α) : List Value := l.flatMap (fun x => (f x).toList)
section
variable {α : Type} {f : α → Array Value} {s : Nat}
theorem rowVals_app (l : List α) (x : α) : rowVals f (l ++ [x]) = rowVals f l ++ (f x).toList := by simp [rowVals]
theorem rowVals_length (hs : ∀ x, (f x).size = s) (l : List α) : (rowVals f l).length = l.length * s := by
  induction l with
  | nil => simp [rowVals]
  | cons x l ih => simp only [rowVals, List.flatMap_cons, List.length_append, Array.length_toList, hs, List.length_cons] at ih ⊢; rw [ih, Nat.add_mul]; omega
theorem rowVals_at (hs : ∀ x, (f x).size = s) (l : List α) (k : Nat) (x : α) (h : l[k]? = some x) (j : Nat) (u : Value) (hu : (f x)[j]? = some u) : (rowVals f l)[k * s + j]? = some u := by
  have hj : j < s := by have := (Array.getElem?_eq_some_iff.1 hu).1; rw [hs] at this; exact this
  induction l generalizing k with
  | nil => simp at h
  | cons y l ih =>
    have e : rowVals f (y :: l) = (f y).toList ++ rowVals f l := rfl
    rw [e]
    cases k with
    | zero => simp at h; subst h; rw [List.getElem?_append_left (by simp [hs]; omega)]; simpa using hu
    | succ k =>
      have e2 : (k + 1) * s + j = s + (k * s + j) := by rw [Nat.add_mul]; omega
      rw [e2, List.getElem?_append_right (by simp [hs]), show (f y).toList.length = s by simp [hs], Nat.add_sub_cancel_left]
      exact ih k (by simpa using h)
theorem rowVals_set (hs : ∀ x, (f x).size = s) (l : List α) (k : Nat) (hk : k < l.length) (x : α) :
    (rowVals f l).take (k * s) ++ (f x).toList ++ (rowVals f l).drop (k * s + (f x).toList.length) = rowVals f (l.set k x) := by
  induction l generalizing k with
  | nil => simp at hk
  | cons y l ih =>
    have e : rowVals f (y :: l) = (f y).toList ++ rowVals f l := rfl
    have hx : (f x).toList.length = s := by simp [hs]
    have hy : (f y).toList.length = s := by simp [hs]
    cases k with
    | zero =>
      rw [e, hx]
      simp only [Nat.zero_mul, Nat.zero_add, List.take_zero, List.nil_append, List.set_cons_zero]
      rw [List.drop_append_of_le_length (by omega), List.drop_of_length_le (by omega)]
      rfl
    | succ k =>
      have h2 := ih k (by simpa using hk)
      rw [hx] at h2
      rw [e, hx, show (k + 1) * s = s + k * s by rw [Nat.add_mul]; omega]
      have e1 : ((f y).toList ++ rowVals f l).take (s + k * s) = (f y).toList ++ (rowVals f l).take (k * s) := by
        rw [List.take_append, hy, List.take_of_length_le (by omega), Nat.add_sub_cancel_left]
      have e2 : ((f y).toList ++ rowVals f l).drop (s + k * s + s) = (rowVals f l).drop (k * s + s) := by
        rw [List.drop_append, hy, List.drop_of_length_le (by omega), show s + k * s + s - s = k * s + s by omega]
        simp
      rw [e1, e2]
      simp only [List.set_cons_succ, List.append_assoc] at h2 ⊢
      rw [h2]
      rfl
end
theorem Try.infoOpF : (Try.prog.info? 63).map (fun i => (i.zero, i.size, i.bytes)) = some (some (.agg #[.int .i64 0, .int .i64 0, .int .i64 0, .int .i64 0, .int .i64 0, .int .i64 0, .int .i64 0, .int .i64 0]), 8, 64) := by kernel_rfl
theorem op_append (va : Value) (l : List OpF) (a : OpF) (g ty : Nat) (w : World) (h : w.ownsRow 0 63 8 va l.length (rowVals OpF.vals l)) (hlen : l.length < 10000000)
    (hg : w.heap[g]? = some (.cells a.vals 63 (0, 0))) :
    ∃ b cap w', (Builtin.append_ #[57, 57] ty #[va, .slice (some ⟨g, 0, none⟩) 1 1]).run Try.prog w = .ok (.slice (some ⟨b, 0, none⟩) (l.length + 1) cap) w' ∧
      w'.ownsRow 0 63 8 (.slice (some ⟨b, 0, none⟩) (l.length + 1) cap) (l.length + 1) (rowVals OpF.vals (l ++ [a])) ∧ w.grownBy w' va.ownBlock ∧ Moved w va (.slice (some ⟨b, 0, none⟩) (l.length + 1) cap) := by
  obtain ⟨i0, hi, hz0, hz1, hz2⟩ := info_parts Try.infoOpF
  obtain ⟨v', w', hr, ho, hgr, hm, -⟩ := run_append_moved (P := Try.prog) w 0 57 ty 63 i0 _ 8 64 Try.underlying57 hi hz0 hz1 hz2 rfl (by decide) va l.length (rowVals OpF.vals l) h
    ⟨g, 0, none⟩ 1 1 a.vals.toList rfl (by
      intro j u hu
      rw [show (⟨g, 0, none⟩ : Addr).add j = ⟨g, j, none⟩ by unfold Addr.add; split <;> simp_all, cell_of_block hg]
      simpa using hu) (by
      intro u hu
      simp [OpF.vals] at hu
      rcases hu with rfl | rfl | rfl | rfl | rfl | rfl | rfl | rfl <;> rfl) (by unfold maxLen; omega) (by omega) (Nat.zero_le _)
  rw [← rowVals_app] at ho
  rcases ho.2 with ⟨_, h0⟩ | ⟨b, cap, cur, rfl, _⟩
  · omega
  · exact ⟨b, cap, w', hr, ho, hgr, hm⟩
theorem Try.infoROp : (Try.prog.info? 68).map (fun i => (i.zero, i.size, i.bytes)) = some (some (.agg #[.int .i64 0, .int .i64 0, .int .i64 0, .int .i64 0, .int .i64 0, .int .i64 0, .int .i64 0, .int .i64 0, .int .i64 0]), 9, 72) := by kernel_rfl
theorem rop_append (va : Value) (l : List ROp) (a : ROp) (g ty : Nat) (w : World) (h : w.ownsRow 0 68 9 va l.length (rowVals ROp.vals l)) (hlen : l.length < 10000000)
    (hg : w.heap[g]? = some (.cells a.vals 68 (0, 0))) :
    ∃ b cap w', (Builtin.append_ #[58, 58] ty #[va, .slice (some ⟨g, 0, none⟩) 1 1]).run Try.prog w = .ok (.slice (some ⟨b, 0, none⟩) (l.length + 1) cap) w' ∧
      w'.ownsRow 0 68 9 (.slice (some ⟨b, 0, none⟩) (l.length + 1) cap) (l.length + 1) (rowVals ROp.vals (l ++ [a])) ∧ w.grownBy w' va.ownBlock ∧ Moved w va (.slice (some ⟨b, 0, none⟩) (l.length + 1) cap) := by
  obtain ⟨i0, hi, hz0, hz1, hz2⟩ := info_parts Try.infoROp
  obtain ⟨v', w', hr, ho, hgr, hm, -⟩ := run_append_moved (P := Try.prog) w 0 58 ty 68 i0 _ 9 72 Try.underlying58 hi hz0 hz1 hz2 rfl (by decide) va l.length (rowVals ROp.vals l) h
    ⟨g, 0, none⟩ 1 1 a.vals.toList rfl (by
      intro j u hu
      rw [show (⟨g, 0, none⟩ : Addr).add j = ⟨g, j, none⟩ by unfold Addr.add; split <;> simp_all, cell_of_block hg]
      simpa using hu) (by
      intro u hu
      simp [ROp.vals] at hu
      rcases hu with rfl | rfl | rfl | rfl | rfl | rfl | rfl | rfl | rfl <;> rfl) (by unfold maxLen; omega) (by omega) (Nat.zero_le _)
  rw [← rowVals_app] at ho
  rcases ho.2 with ⟨_, h0⟩ | ⟨b, cap, cur, rfl, _⟩
  · omega
  · exact ⟨b, cap, w', hr, ho, hgr, hm⟩
end Go.Proofs.Ytaipeclmfgdegaa
