import Derived.Test.YtdiabpoafennlaaHyPM2
/-! The tasks of a reducer's player in memory. -/
namespace Go.Proofs.Ytdiabpoafennlaa
set_option linter.unusedVariables false
set_option maxRecDepth 20000
set_option linter.unusedSimpArgs false
open Go.RowKit Go.HeapKit

theorem tk_cong {tk tk' : List (Nat × List Nat)} {H H' : Nat → Value} {n : Nat} (h1 : ∀ i, i < n → (tk.getD i (0, [])).1 = (tk'.getD i (0, [])).1) (h2 : ∀ i, i < n → H i = H' i) : (List.range (n * 2)).map (tkF tk H) = (List.range (n * 2)).map (tkF tk' H') := by
  refine range_cong (fun k hk => ?_)
  unfold tkF
  rw [h1 _ (by omega), h2 _ (by omega)]
theorem tk_more (tk : List (Nat × List Nat)) (H : Nat → Value) (x : Nat × List Nat) (V : Value) : (List.range ((tk ++ [x]).length * 2)).map (tkF (tk ++ [x]) (upd H tk.length V)) = (List.range (tk.length * 2)).map (tkF tk H) ++ [.int .i64 x.1, V] := by
  have e : (tk ++ [x]).length * 2 = tk.length * 2 + 1 + 1 := by simp; omega
  rw [e, List.range_succ, List.range_succ, List.map_append, List.map_append, List.append_assoc]
  congr 1
  · refine tk_cong (fun i hi => ?_) (fun i hi => upd_ne (by omega))
    rw [List.getD_eq_getElem?_getD, List.getElem?_append_left hi, ← List.getD_eq_getElem?_getD]
  · simp [tkF, show (tk.length * 2 + 1) % 2 = 1 by omega, show (tk.length * 2 + 1) / 2 = tk.length by omega, upd_eq]
theorem tk_setH (tk : List (Nat × List Nat)) (H : Nat → Value) (n i : Nat) (V : Value) : ((List.range (n * 2)).map (tkF tk H)).set (i * 2 + 1) V = (List.range (n * 2)).map (tkF tk (upd H i V)) := by
  rw [range_setF]
  refine range_cong (fun k hk => ?_)
  by_cases e : k = i * 2 + 1
  · subst e
    rw [upd_eq]
    simp [tkF, show (i * 2 + 1) % 2 = 1 by omega, show (i * 2 + 1) / 2 = i by omega, upd_eq]
  · rw [upd_ne e]
    unfold tkF
    by_cases h2 : k % 2 = 0
    · rw [if_pos h2, if_pos h2]
    · rw [if_neg h2, if_neg h2, upd_ne (by omega)]
theorem rowOf_more (tk : List (Nat × List Nat)) (x : Nat × List Nat) (i : Nat) (hi : i < (tk ++ [x]).length) : rowOf (tk ++ [x]) i = if i = tk.length then x.2 else rowOf tk i := by
  unfold rowOf
  rw [List.getD_eq_getElem?_getD, List.getD_eq_getElem?_getD]
  by_cases e : i = tk.length
  · subst e; simp
  · rw [if_neg e, List.getElem?_append_left (by simp at hi; omega)]
theorem Try.infoTask : (Try.prog.info? 84).map (fun i => (i.zero, i.size, i.bytes)) = some (some (.agg #[.int .i64 0, .slice none 0 0]), 2, 32) := by kernel_rfl
theorem Try.infoMerge : (Try.prog.info? 43).map (fun i => (i.zero, i.size, i.bytes)) = some (some (.agg #[.int .i64 0, .int .i64 0, .int .i64 0]), 3, 24) := by kernel_rfl
/-- 'append(tasks, task)'. -/
theorem task_more (base : Nat) (sl : Value) (x : Int) (V : Value) (n : Nat) (xs : List Value) (ty g0 : Nat) (w : World) (h : w.ownsRow base 84 2 sl n xs) (hb : base ≤ w.heap.size) (hlen : (n + 1) * 32 ≤ 140737488355328) (hV : V.oneCell' = true)
    (hg0 : w.heap[g0]? = some (.cells #[.int .i64 x, V] 84 (0, 0))) :
    ∃ g cap w', (Builtin.append_ #[67, 67] ty #[sl, .slice (some ⟨g0, 0, none⟩) 1 1]).run Try.prog w = .ok (.slice (some ⟨g, 0, none⟩) (n + 1) cap) w' ∧
      w'.ownsRow base 84 2 (.slice (some ⟨g, 0, none⟩) (n + 1) cap) (n + 1) (xs ++ [.int .i64 x, V]) ∧ Keeps (fun k => sl.ownBlock = some k) w w' := by
  obtain ⟨i0, hi, hz0, hz1, hz2⟩ := info_parts Try.infoTask
  obtain ⟨v', w1, hr, ho, hgr, hm, -⟩ := run_append_moved (P := Try.prog) w base 67 ty 84 i0 _ 2 32 Try.underlying67 hi hz0 hz1 hz2 rfl (by decide) sl n _ h
    ⟨g0, 0, none⟩ 1 1 [.int .i64 x, V] rfl (by
      intro j u hu
      rw [addr_at, blk_cell hg0]
      simpa using hu) (by
      intro u hu
      simp at hu
      rcases hu with rfl | rfl
      · rfl
      · exact hV) (by unfold maxLen; omega) hlen hb
  obtain ⟨g, cap, rfl⟩ : ∃ g cap, v' = .slice (some ⟨g, 0, none⟩) (n + 1) cap := by
    rcases ho.2 with ⟨_, h0⟩ | ⟨b, cap, cur, rfl, _⟩
    · omega
    · exact ⟨b, cap, rfl⟩
  exact ⟨g, cap, w1, hr, ho, (Keeps.refl _ w).andGrown hgr (fun k e => .inl e)⟩
theorem merge_more (base : Nat) (sl : Value) (mg : List (Nat × Nat × Nat)) (x : Nat × Nat × Nat) (ty g0 : Nat) (w : World) (h : w.ownsRow base 43 3 sl mg.length (mgV mg)) (hb : base ≤ w.heap.size) (hlen : (mg.length + 1) * 24 ≤ 140737488355328)
    (hg0 : w.heap[g0]? = some (.cells #[.int .i64 x.1, .int .i64 x.2.1, .int .i64 x.2.2] 43 (0, 0))) :
    ∃ g cap w', (Builtin.append_ #[36, 36] ty #[sl, .slice (some ⟨g0, 0, none⟩) 1 1]).run Try.prog w = .ok (.slice (some ⟨g, 0, none⟩) (mg.length + 1) cap) w' ∧
      w'.ownsRow base 43 3 (.slice (some ⟨g, 0, none⟩) (mg.length + 1) cap) (mg.length + 1) (mgV (mg ++ [x])) ∧ Keeps (fun k => sl.ownBlock = some k) w w' := by
  obtain ⟨i0, hi, hz0, hz1, hz2⟩ := info_parts Try.infoMerge
  obtain ⟨v', w1, hr, ho, hgr, hm, -⟩ := run_append_moved (P := Try.prog) w base 36 ty 43 i0 _ 3 24 Try.underlying36 hi hz0 hz1 hz2 rfl (by decide) sl mg.length _ h
    ⟨g0, 0, none⟩ 1 1 [.int .i64 x.1, .int .i64 x.2.1, .int .i64 x.2.2] rfl (by
      intro j u hu
      rw [addr_at, blk_cell hg0]
      simpa using hu) (by
      intro u hu
      simp at hu
      rcases hu with rfl | rfl | rfl <;> rfl) (by unfold maxLen; omega) hlen hb
  obtain ⟨g, cap, rfl⟩ : ∃ g cap, v' = .slice (some ⟨g, 0, none⟩) (mg.length + 1) cap := by
    rcases ho.2 with ⟨_, h0⟩ | ⟨b, cap, cur, rfl, _⟩
    · omega
    · exact ⟨b, cap, rfl⟩
  refine ⟨g, cap, w1, hr, ?_, (Keeps.refl _ w).andGrown hgr (fun k e => .inl e)⟩
  simpa [mgV] using ho
theorem row1_more (base : Nat) (sl : Value) (l : List Nat) (x : Nat) (ty g0 : Nat) (w : World) (h : w.ownsRow base 3 1 sl l.length (nv l)) (hb : base ≤ w.heap.size) (hlen : (l.length + 1) * 8 ≤ 140737488355328)
    (hg0 : w.heap[g0]? = some (.cells #[.int .i64 x] 3 (0, 0))) :
    ∃ g cap w', (Builtin.append_ #[24, 24] ty #[sl, .slice (some ⟨g0, 0, none⟩) 1 1]).run Try.prog w = .ok (.slice (some ⟨g, 0, none⟩) (l.length + 1) cap) w' ∧
      w'.ownsRow base 3 1 (.slice (some ⟨g, 0, none⟩) (l.length + 1) cap) (l ++ [x]).length (nv (l ++ [x])) ∧ Keeps (fun k => sl.ownBlock = some k) w w' ∧ (sl.ownBlock = some g ∨ w.heap.size ≤ g) := by
  obtain ⟨i0, hi, hz0, hz1, hz2⟩ := info_parts Try.infoI
  obtain ⟨v', w1, hr, ho, hgr, hm, -⟩ := run_append_moved (P := Try.prog) w base 24 ty 3 i0 _ 1 8 Try.underlying24 hi hz0 hz1 hz2 rfl (by decide) sl l.length _ h
    ⟨g0, 0, none⟩ 1 1 [.int .i64 x] rfl (by
      intro j u hu
      rw [addr_at, blk_cell hg0]
      simpa using hu) (by
      intro u hu
      simp at hu
      subst hu; rfl) (by unfold maxLen; omega) hlen hb
  obtain ⟨g, cap, rfl⟩ : ∃ g cap, v' = .slice (some ⟨g, 0, none⟩) (l.length + 1) cap := by
    rcases ho.2 with ⟨_, h0⟩ | ⟨b, cap, cur, rfl, _⟩
    · omega
    · exact ⟨b, cap, rfl⟩
  refine ⟨g, cap, w1, hr, by simpa [nv, iv, nI] using ho, (Keeps.refl _ w).andGrown hgr (fun k e => .inl e), ?_⟩
  rcases hm with hm | ⟨g', e, hg⟩
  · exact .inl (hm.symm.trans rfl)
  · simp [Value.ownBlock] at e; exact .inr (by omega)
section
variable {w w1 : World} {base pb : Nat} {st : List Bool} {X : PX} {K : Ky → Value} {H R : Nat → Value} {s : PS}
theorem row_same {R : Nat → Value} {tk : List (Nat × List Nat)} {x : Nat × List Nat} {V : Value} {i : Nat} (hi : i < (tk ++ [x]).length) (h1 : i ≠ tk.length) : upd R tk.length V i = R i ∧ rowOf (tk ++ [x]) i = rowOf tk i := ⟨upd_ne h1, by rw [rowOf_more tk x i hi, if_neg h1]⟩
/-- A task begins. -/
theorem PM.spawn (h : PM w base pb st X K H R s) {V : Value} {x : Nat × List Nat} {w2 : World} {g cap : Nat} (hk : Keeps None w w1) (ho : w1.ownsRow base 3 1 V x.2.length (nv x.2)) (hm : ∀ b, V.ownBlock = some b → w.heap.size ≤ b)
    (ho2 : w2.ownsRow base 84 2 (.slice (some ⟨g, 0, none⟩) (s.tk.length + 1) cap) (s.tk.length + 1) ((List.range (s.tk.length * 2)).map (tkF s.tk H) ++ [.int .i64 x.1, V])) (hk2 : Keeps (fun k => (Value.slice X.ta s.tk.length X.tc).ownBlock = some k) w1 w2) :
    PM (w2.setCell ⟨pb, 7, none⟩ (.slice (some ⟨g, 0, none⟩) (s.tk.length + 1) cap)) base pb st { X with ta := some ⟨g, 0, none⟩, tc := cap } K (upd H s.tk.length V) (upd R s.tk.length V) { s with tk := s.tk ++ [x] } := by
  have h1 := h.more hk
  have hT := onlyT_own h1.tk.tks
  refine PM.put (c := X.cells st s) (blk_other h1.blk hk2 hT (by decide)) h.low (by simp [PX.cells]) (h1.vw.other hk2 hT (by decide) (by decide)) ⟨?_, ?_, ?_⟩ (h1.ar.other hk2 (fun i e => row_low h1.tk.tks e)) (row_other h1.mg hk2 hT (by decide))
  · show w2.ownsRow base 84 2 (.slice (some ⟨g, 0, none⟩) (s.tk ++ [x]).length cap) (s.tk ++ [x]).length ((List.range ((s.tk ++ [x]).length * 2)).map (tkF (s.tk ++ [x]) (upd H s.tk.length V)))
    rw [tk_more, List.length_append, List.length_singleton]
    exact ho2
  · intro i hi
    by_cases e : i = s.tk.length
    · subst e
      rw [upd_eq, rowOf_more s.tk x _ hi, if_pos rfl]
      exact row_other ho hk2 hT (by decide)
    · have hr := row_same (R := R) (V := V) hi e
      have hi2 : i < s.tk.length := by have : i < (s.tk ++ [x]).length := hi; simp at this; omega
      show w2.ownsRow base 3 1 (upd R s.tk.length V i) (rowOf (s.tk ++ [x]) i).length (nv (rowOf (s.tk ++ [x]) i))
      rw [hr.1, hr.2]
      exact row_other (h1.tk.rows i hi2) hk2 hT (by decide)
  · intro i j b hi hj hij
    have hi2 : i < s.tk.length + 1 := by have : i < (s.tk ++ [x]).length := hi; simpa using this
    have hj2 : j < s.tk.length + 1 := by have : j < (s.tk ++ [x]).length := hj; simpa using this
    by_cases ei : i = s.tk.length
    · subst ei
      rw [upd_eq, upd_ne (Ne.symm hij)]
      intro e1 e2
      have := hm b e1
      have := own_lt (h.tk.rows j (by omega)) e2
      omega
    · rw [upd_ne ei]
      by_cases ej : j = s.tk.length
      · subst ej
        rw [upd_eq]
        intro e1 e2
        have := hm b e2
        have := own_lt (h.tk.rows i (by omega)) e1
        omega
      · rw [upd_ne ej]
        exact h.tk.apart i j b (by omega) (by omega) hij
theorem PM.spawned (h : PM w base pb st X K H R s) : PM (w.setCell ⟨pb, 8, none⟩ (.int .i64 ((s.spn + 1 : Nat) : Int))) base pb st X K H R { s with spn := s.spn + 1 } :=
  PM.put (c := X.cells st s) h.blk h.low (by simp [PX.cells]) h.vw h.tk h.ar h.mg
/-- The last task is gone. -/
theorem PM.endTask (h : PM w base pb st X K H R s) {tk : List (Nat × List Nat)} {x : Nat × List Nat} (hx : s.tk = tk ++ [x]) : PM (w.setCell ⟨pb, 7, none⟩ (.slice X.ta tk.length X.tc)) base pb st X K H R { s with tk := tk } := by
  have hrow : ∀ i, i < tk.length → rowOf s.tk i = rowOf tk i := fun i hi => by rw [hx, rowOf_more tk x i (by simp; omega), if_neg (by omega)]
  have hlen : s.tk.length = tk.length + 1 := by rw [hx]; simp
  refine PM.put (c := X.cells st s) h.blk h.low (by simp [PX.cells]) h.vw ⟨?_, fun i hi => ?_, fun i j b hi hj => h.tk.apart i j b (by have : i < tk.length := hi; omega) (by have : j < tk.length := hj; omega)⟩ h.ar h.mg
  · have ho := h.tk.tks
    have hvals : (List.range (tk.length * 2)).map (tkF tk H) = ((List.range (s.tk.length * 2)).map (tkF s.tk H)).take (tk.length * 2) := by
      rw [← List.map_take, List.take_range, show min (tk.length * 2) (s.tk.length * 2) = tk.length * 2 by omega]
      refine tk_cong (fun i hi => ?_) (fun _ _ => rfl)
      rw [hx, List.getD_eq_getElem?_getD, List.getD_eq_getElem?_getD, List.getElem?_append_left hi]
    show w.ownsRow base 84 2 (.slice X.ta tk.length X.tc) tk.length ((List.range (tk.length * 2)).map (tkF tk H))
    refine ⟨by simp, ?_⟩
    rcases ho.2 with ⟨e, h0⟩ | ⟨g, cap, cur, e, hb, hg, hn, hm, hcs, ht⟩
    · omega
    · injection e with e1 e2 e3
      refine .inr ⟨g, cap, cur, by rw [e1, e3], hb, hg, by omega, hm, hcs, ?_⟩
      rw [hvals, ← ht, List.take_take]
      congr 1
      omega
  · have hi2 : i < tk.length := hi
    have := h.tk.rows i (by omega)
    rwa [hrow i hi2] at this
/-- The current task's row becomes another one: in its memory. -/
theorem PM.putRow (h : PM w base pb st X K H R s) {tk : List (Nat × List Nat)} {sp : Nat} {r r' : List Nat} {V : Value} (hx : s.tk = tk ++ [(sp, r)]) (ho : w1.ownsRow base 3 1 V r'.length (nv r')) (hk : Keeps (fun k => (R tk.length).ownBlock = some k) w w1) (hm : ∀ b, V.ownBlock = some b → (R tk.length).ownBlock = some b ∨ w.heap.size ≤ b) :
    PM w1 base pb st X K H (upd R tk.length V) { s with tk := tk ++ [(sp, r')] } := by
  have hlen : s.tk.length = tk.length + 1 := by rw [hx]; simp
  have hr := h.tk.rows tk.length (by omega)
  have hT := onlyT_own hr
  refine ⟨?_, h.low, h.vw.other hk hT (by decide) (by decide), ⟨?_, fun i hi => ?_, ?_⟩, h.ar.other hk (fun i e => row_low hr e), row_other h.mg hk hT (by decide)⟩
  · have := blk_other h.blk hk hT (by decide)
    rw [this]
    simp [PX.cells, hx]
  · have ho2 := row_other h.tk.tks hk hT (by decide)
    show w1.ownsRow base 84 2 (.slice X.ta (tk ++ [(sp, r')]).length X.tc) (tk ++ [(sp, r')]).length ((List.range ((tk ++ [(sp, r')]).length * 2)).map (tkF (tk ++ [(sp, r')]) H))
    have e1 : (tk ++ [(sp, r')]).length = s.tk.length := by rw [hx]; simp
    rw [e1]
    rwa [tk_cong (tk' := s.tk) (H' := H) (fun i hi => ?_) (fun _ _ => rfl)]
    rw [hx, List.getD_eq_getElem?_getD, List.getD_eq_getElem?_getD]
    by_cases e : i < tk.length
    · rw [List.getElem?_append_left e, List.getElem?_append_left e]
    · rw [List.getElem?_append_right (by omega), List.getElem?_append_right (by omega), show i - tk.length = 0 by omega]
      rfl
  · have hi2 : i < tk.length + 1 := by have : i < (tk ++ [(sp, r')]).length := hi; simpa using this
    show w1.ownsRow base 3 1 (upd R tk.length V i) (rowOf (tk ++ [(sp, r')]) i).length (nv (rowOf (tk ++ [(sp, r')]) i))
    rw [rowOf_more tk (sp, r') i hi]
    by_cases e : i = tk.length
    · subst e
      rw [upd_eq, if_pos rfl]
      exact ho
    · rw [upd_ne e, if_neg e]
      have := h.tk.rows i (by omega)
      rw [hx, rowOf_more tk (sp, r) i (by simp; omega), if_neg e] at this
      exact row_kept this hk (fun b e1 e2 => h.tk.apart i tk.length b (by omega) (by omega) e e1 e2)
  · intro i j b hi hj hij
    have hi2 : i < tk.length + 1 := by have : i < (tk ++ [(sp, r')]).length := hi; simpa using this
    have hj2 : j < tk.length + 1 := by have : j < (tk ++ [(sp, r')]).length := hj; simpa using this
    by_cases ei : i = tk.length
    · subst ei
      rw [upd_eq, upd_ne (Ne.symm hij)]
      intro e1 e2
      rcases hm b e1 with h3 | h3
      · exact h.tk.apart _ j b (by omega) (by omega) hij h3 e2
      · have := own_lt (h.tk.rows j (by omega)) e2
        omega
    · rw [upd_ne ei]
      by_cases ej : j = tk.length
      · subst ej
        rw [upd_eq]
        intro e1 e2
        rcases hm b e2 with h3 | h3
        · exact h.tk.apart i _ b (by omega) (by omega) hij e1 h3
        · have := own_lt (h.tk.rows i (by omega)) e1
          omega
      · rw [upd_ne ej]
        exact h.tk.apart i j b (by omega) (by omega) hij
/-- What the tasks say of the current one's row is set. -/
theorem PM.setHead (h : PM w base pb st X K H R s) {tb i : Nat} {V : Value} (hta : X.ta = some ⟨tb, 0, none⟩) : PM (w.setCell ⟨tb, i * 2 + 1, none⟩ V) base pb st X K (upd H i V) R s := by
  obtain ⟨cur, hcur⟩ := own_block h.tk.tks (g := tb) (by rw [hta]; rfl)
  have hk : Keeps (· = tb) w (w.setCell ⟨tb, i * 2 + 1, none⟩ V) := keeps_one (Keeps.refl _ _) _
  have hT : OnlyT (· = tb) w 84 := onlyT_one hcur
  have hlo : base ≤ tb := row_low h.tk.tks (by rw [hta]; rfl)
  refine ⟨blk_other h.blk hk hT (by decide), h.low, h.vw.other hk hT (by decide) (by decide), ⟨?_, fun i hi => row_other (h.tk.rows i hi) hk hT (by decide), h.tk.apart⟩, h.ar.other hk (fun i e => by omega), row_other h.mg hk hT (by decide)⟩
  have ho := h.tk.tks
  rw [← tk_setH]
  rw [hta] at ho ⊢
  exact row_set ho _ V
end
end Go.Proofs.Ytdiabpoafennlaa
