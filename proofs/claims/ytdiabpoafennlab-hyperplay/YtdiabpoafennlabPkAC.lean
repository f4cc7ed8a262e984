import Derived.Test.YtdiabpoafennlabPkAB
import Derived.WalkMore
import Derived.Deep.RegionHeld3
import Derived.Deep.DeepCutAuto
/-! The tasks of a reducer's player in memory. -/
namespace Go.Proofs.Ytdiabpoafennlab
set_option linter.unusedVariables false
set_option maxRecDepth 20000
set_option linter.unusedSimpArgs false
open Go.RowKit Go.HeapKit

theorem tk_cong {tk tk' : List (Nat × List Nat)} {H H' : Nat → Value} {n : Nat} (h1 : ∀ i, i < n → (tk.getD i (0, [])).1 = (tk'.getD i (0, [])).1) (h2 : ∀ i, i < n → H i = H' i) : (List.range (n * 2)).map (tkF tk H) = (List.range (n * 2)).map (tkF tk' H') := by
  refine range_cong (fun k hk => ?_)
  unfold tkF
  rw [h1 _ (by omega), h2 _ (by omega)]
theorem tk_more (tk : List (Nat × List Nat)) (H : Nat → Value) (x : Nat × List Nat) (V : Value) : (List.range ((tk ++ [x]).length * 2)).map (tkF (tk ++ [x]) (upd H tk.length V)) = (List.range (tk.length * 2)).map (tkF tk H) ++ [.int .i64 x.1, V] := by
  have e : (tk ++ [x]).length * 2 = tk.length * 2 + 1 + 1 := by simp; omega
  rw [e, List.range_succ, List.range_succ, List.map_append, List.map_append, List.append_assoc]
  congr 1
  · refine tk_cong (fun i hi => ?_) (fun i hi => upd_ne (by omega))
    rw [List.getD_eq_getElem?_getD, List.getElem?_append_left hi, ← List.getD_eq_getElem?_getD]
  · simp [tkF, show (tk.length * 2 + 1) % 2 = 1 by omega, show (tk.length * 2 + 1) / 2 = tk.length by omega, upd_eq]
theorem tk_setH (tk : List (Nat × List Nat)) (H : Nat → Value) (n i : Nat) (V : Value) : ((List.range (n * 2)).map (tkF tk H)).set (i * 2 + 1) V = (List.range (n * 2)).map (tkF tk (upd H i V)) := by
  rw [range_setF]
  refine range_cong (fun k hk => ?_)
  by_cases e : k = i * 2 + 1
  · subst e
    rw [upd_eq]
    simp [tkF, show (i * 2 + 1) % 2 = 1 by omega, show (i * 2 + 1) / 2 = i by omega, upd_eq]
  · rw [upd_ne e]
    unfold tkF
    by_cases h2 : k % 2 = 0
    · rw [if_pos h2, if_pos h2]
    · rw [if_neg h2, if_neg h2, upd_ne (by omega)]
theorem rowOf_more (tk : List (Nat × List Nat)) (x : Nat × List Nat) (i : Nat) (hi : i < (tk ++ [x]).length) : rowOf (tk ++ [x]) i = if i = tk.length then x.2 else rowOf tk i := by
  unfold rowOf
  rw [List.getD_eq_getElem?_getD, List.getD_eq_getElem?_getD]
  by_cases e : i = tk.length
  · subst e; simp
  · rw [if_neg e, List.getElem?_append_left (by simp at hi; omega)]
theorem Try.infoTask : (Try.prog.info? 89).map (fun i => (i.zero, i.size, i.bytes)) = some (some (.agg #[.int .i64 0, .slice none 0 0]), 2, 32) := by kernel_rfl
theorem Try.infoMerge : (Try.prog.info? 96).map (fun i => (i.zero, i.size, i.bytes)) = some (some (.agg #[.int .i64 0, .int .i64 0, .int .i64 0]), 3, 24) := by kernel_rfl
/-- 'append(tasks, task)'. -/
theorem task_more (base : Nat) (sl : Value) (x : Int) (V : Value) (n : Nat) (xs : List Value) (ty g0 : Nat) (w : World) (h : w.ownsRow base 89 2 sl n xs) (hb : base ≤ w.heap.size) (hlen : (n + 1) * 32 ≤ 140737488355328) (hV : V.oneCell' = true)
    (hg0 : w.heap[g0]? = some (.cells #[.int .i64 x, V] 89 (0, 0))) :
    ∃ g cap w', (Builtin.append_ #[57, 57] ty #[sl, .slice (some ⟨g0, 0, none⟩) 1 1]).run Try.prog w = .ok (.slice (some ⟨g, 0, none⟩) (n + 1) cap) w' ∧
      w'.ownsRow base 89 2 (.slice (some ⟨g, 0, none⟩) (n + 1) cap) (n + 1) (xs ++ [.int .i64 x, V]) ∧ Keeps (fun k => sl.ownBlock = some k) w w' := by
  obtain ⟨i0, hi, hz0, hz1, hz2⟩ := info_parts Try.infoTask
  obtain ⟨v', w1, hr, ho, hgr, hm, -⟩ := run_append_moved (P := Try.prog) w base 57 ty 89 i0 _ 2 32 Try.underlying57 hi hz0 hz1 hz2 rfl (by decide) sl n _ h
    ⟨g0, 0, none⟩ 1 1 [.int .i64 x, V] rfl (by
      intro j u hu
      rw [addr_at, blk_cell hg0]
      simpa using hu) (by
      intro u hu
      simp at hu
      rcases hu with rfl | rfl
      · rfl
      · exact hV) (by unfold maxLen; omega) hlen hb
  obtain ⟨g, cap, rfl⟩ : ∃ g cap, v' = .slice (some ⟨g, 0, none⟩) (n + 1) cap := by
    rcases ho.2 with ⟨_, h0⟩ | ⟨b, cap, cur, rfl, _⟩
    · omega
    · exact ⟨b, cap, rfl⟩
  exact ⟨g, cap, w1, hr, ho, (Keeps.refl _ w).andGrown hgr (fun k e => .inl e)⟩
theorem merge_more (base : Nat) (sl : Value) (mg : List (Nat × Nat × Nat)) (x : Nat × Nat × Nat) (ty g0 : Nat) (w : World) (h : w.ownsRow base 96 3 sl mg.length (mgV mg)) (hb : base ≤ w.heap.size) (hlen : (mg.length + 1) * 24 ≤ 140737488355328)
    (hg0 : w.heap[g0]? = some (.cells #[.int .i64 x.1, .int .i64 x.2.1, .int .i64 x.2.2] 96 (0, 0))) :
    ∃ g cap w', (Builtin.append_ #[29, 29] ty #[sl, .slice (some ⟨g0, 0, none⟩) 1 1]).run Try.prog w = .ok (.slice (some ⟨g, 0, none⟩) (mg.length + 1) cap) w' ∧
      w'.ownsRow base 96 3 (.slice (some ⟨g, 0, none⟩) (mg.length + 1) cap) (mg.length + 1) (mgV (mg ++ [x])) ∧ Keeps (fun k => sl.ownBlock = some k) w w' := by
  obtain ⟨i0, hi, hz0, hz1, hz2⟩ := info_parts Try.infoMerge
  obtain ⟨v', w1, hr, ho, hgr, hm, -⟩ := run_append_moved (P := Try.prog) w base 29 ty 96 i0 _ 3 24 Try.underlying29 hi hz0 hz1 hz2 rfl (by decide) sl mg.length _ h
    ⟨g0, 0, none⟩ 1 1 [.int .i64 x.1, .int .i64 x.2.1, .int .i64 x.2.2] rfl (by
      intro j u hu
      rw [addr_at, blk_cell hg0]
      simpa using hu) (by
      intro u hu
      simp at hu
      rcases hu with rfl | rfl | rfl <;> rfl) (by unfold maxLen; omega) hlen hb
  obtain ⟨g, cap, rfl⟩ : ∃ g cap, v' = .slice (some ⟨g, 0, none⟩) (mg.length + 1) cap := by
    rcases ho.2 with ⟨_, h0⟩ | ⟨b, cap, cur, rfl, _⟩
    · omega
    · exact ⟨b, cap, rfl⟩
  refine ⟨g, cap, w1, hr, ?_, (Keeps.refl _ w).andGrown hgr (fun k e => .inl e)⟩
  simpa [mgV] using ho
theorem row1_more (base : Nat) (sl : Value) (l : List Nat) (x : Nat) (ty g0 : Nat) (w : World) (h : w.ownsRow base 3 1 sl l.length (nv l)) (hb : base ≤ w.heap.size) (hlen : (l.length + 1) * 8 ≤ 140737488355328)
    (hg0 : w.heap[g0]? = some (.cells #[.int .i64 x] 3 (0, 0))) :
    ∃ g cap w', (Builtin.append_ #[24, 24] ty #[sl, .slice (some ⟨g0, 0, none⟩) 1 1]).run Try.prog w = .ok (.slice (some ⟨g, 0, none⟩) (l.length + 1) cap) w' ∧
      w'.ownsRow base 3 1 (.slice (some ⟨g, 0, none⟩) (l.length + 1) cap) (l ++ [x]).length (nv (l ++ [x])) ∧ Keeps (fun k => sl.ownBlock = some k) w w' ∧ (sl.ownBlock = some g ∨ w.heap.size ≤ g) := by
  obtain ⟨i0, hi, hz0, hz1, hz2⟩ := info_parts Try.infoI
  obtain ⟨v', w1, hr, ho, hgr, hm, -⟩ := run_append_moved (P := Try.prog) w base 24 ty 3 i0 _ 1 8 Try.underlying24 hi hz0 hz1 hz2 rfl (by decide) sl l.length _ h
    ⟨g0, 0, none⟩ 1 1 [.int .i64 x] rfl (by
      intro j u hu
      rw [addr_at, blk_cell hg0]
      simpa using hu) (by
      intro u hu
      simp at hu
      subst hu; rfl) (by unfold maxLen; omega) hlen hb
  obtain ⟨g, cap, rfl⟩ : ∃ g cap, v' = .slice (some ⟨g, 0, none⟩) (l.length + 1) cap := by
    rcases ho.2 with ⟨_, h0⟩ | ⟨b, cap, cur, rfl, _⟩
    · omega
    · exact ⟨b, cap, rfl⟩
  refine ⟨g, cap, w1, hr, by simpa [nv, iv, nI] using ho, (Keeps.refl _ w).andGrown hgr (fun k e => .inl e), ?_⟩
  rcases hm with hm | ⟨g', e, hg⟩
  · exact .inl (hm.symm.trans rfl)
  · simp [Value.ownBlock] at e; exact .inr (by omega)
section
variable {w w1 : World} {base pb : Nat} {st : List Bool} {X : PX} {K : Ky → Value} {H R : Nat → Value} {s : PS}
theorem row_same {R : Nat → Value} {tk : List (Nat × List Nat)} {x : Nat × List Nat} {V : Value} {i : Nat} (hi : i < (tk ++ [x]).length) (h1 : i ≠ tk.length) : upd R tk.length V i = R i ∧ rowOf (tk ++ [x]) i = rowOf tk i := ⟨upd_ne h1, by rw [rowOf_more tk x i hi, if_neg h1]⟩
/-- A task begins. -/
theorem PM.spawn (h : PM w base pb st X K H R s) {V : Value} {x : Nat × List Nat} {w2 : World} {g cap : Nat} (hk : Keeps None w w1) (ho : w1.ownsRow base 3 1 V x.2.length (nv x.2)) (hm : ∀ b, V.ownBlock = some b → w.heap.size ≤ b)
    (ho2 : w2.ownsRow base 89 2 (.slice (some ⟨g, 0, none⟩) (s.tk.length + 1) cap) (s.tk.length + 1) ((List.range (s.tk.length * 2)).map (tkF s.tk H) ++ [.int .i64 x.1, V])) (hk2 : Keeps (fun k => (Value.slice X.ta s.tk.length X.tc).ownBlock = some k) w1 w2) :
    PM (w2.setCell ⟨pb, 7, none⟩ (.slice (some ⟨g, 0, none⟩) (s.tk.length + 1) cap)) base pb st { X with ta := some ⟨g, 0, none⟩, tc := cap } K (upd H s.tk.length V) (upd R s.tk.length V) { s with tk := s.tk ++ [x] } := by
  have h1 := h.more hk
  have hT := onlyT_own h1.tk.tks
  refine PM.put (c := X.cells st s) (blk_other h1.blk hk2 hT (by decide)) h.low (by simp [PX.cells]) (h1.vw.other hk2 hT (by decide) (by decide)) ⟨?_, ?_, ?_⟩ (h1.ar.other hk2 (fun i e => row_low h1.tk.tks e)) (row_other h1.mg hk2 hT (by decide))
  · show w2.ownsRow base 89 2 (.slice (some ⟨g, 0, none⟩) (s.tk ++ [x]).length cap) (s.tk ++ [x]).length ((List.range ((s.tk ++ [x]).length * 2)).map (tkF (s.tk ++ [x]) (upd H s.tk.length V)))
    rw [tk_more, List.length_append, List.length_singleton]
    exact ho2
  · intro i hi
    by_cases e : i = s.tk.length
    · subst e
      rw [upd_eq, rowOf_more s.tk x _ hi, if_pos rfl]
      exact row_other ho hk2 hT (by decide)
    · have hr := row_same (R := R) (V := V) hi e
      have hi2 : i < s.tk.length := by have : i < (s.tk ++ [x]).length := hi; simp at this; omega
      show w2.ownsRow base 3 1 (upd R s.tk.length V i) (rowOf (s.tk ++ [x]) i).length (nv (rowOf (s.tk ++ [x]) i))
      rw [hr.1, hr.2]
      exact row_other (h1.tk.rows i hi2) hk2 hT (by decide)
  · intro i j b hi hj hij
    have hi2 : i < s.tk.length + 1 := by have : i < (s.tk ++ [x]).length := hi; simpa using this
    have hj2 : j < s.tk.length + 1 := by have : j < (s.tk ++ [x]).length := hj; simpa using this
    by_cases ei : i = s.tk.length
    · subst ei
      rw [upd_eq, upd_ne (Ne.symm hij)]
      intro e1 e2
      have := hm b e1
      have := own_lt (h.tk.rows j (by omega)) e2
      omega
    · rw [upd_ne ei]
      by_cases ej : j = s.tk.length
      · subst ej
        rw [upd_eq]
        intro e1 e2
        have := hm b e2
        have := own_lt (h.tk.rows i (by omega)) e1
        omega
      · rw [upd_ne ej]
        exact h.tk.apart i j b (by omega) (by omega) hij
theorem PM.spawned (h : PM w base pb st X K H R s) : PM (w.setCell ⟨pb, 8, none⟩ (.int .i64 ((s.spn + 1 : Nat) : Int))) base pb st X K H R { s with spn := s.spn + 1 } :=
  PM.put (c := X.cells st s) h.blk h.low (by simp [PX.cells]) h.vw h.tk h.ar h.mg
/-- The last task is gone. -/
theorem PM.endTask (h : PM w base pb st X K H R s) {tk : List (Nat × List Nat)} {x : Nat × List Nat} (hx : s.tk = tk ++ [x]) : PM (w.setCell ⟨pb, 7, none⟩ (.slice X.ta tk.length X.tc)) base pb st X K H R { s with tk := tk } := by
  have hrow : ∀ i, i < tk.length → rowOf s.tk i = rowOf tk i := fun i hi => by rw [hx, rowOf_more tk x i (by simp; omega), if_neg (by omega)]
  have hlen : s.tk.length = tk.length + 1 := by rw [hx]; simp
  refine PM.put (c := X.cells st s) h.blk h.low (by simp [PX.cells]) h.vw ⟨?_, fun i hi => ?_, fun i j b hi hj => h.tk.apart i j b (by have : i < tk.length := hi; omega) (by have : j < tk.length := hj; omega)⟩ h.ar h.mg
  · have ho := h.tk.tks
    have hvals : (List.range (tk.length * 2)).map (tkF tk H) = ((List.range (s.tk.length * 2)).map (tkF s.tk H)).take (tk.length * 2) := by
      rw [← List.map_take, List.take_range, show min (tk.length * 2) (s.tk.length * 2) = tk.length * 2 by omega]
      refine tk_cong (fun i hi => ?_) (fun _ _ => rfl)
      rw [hx, List.getD_eq_getElem?_getD, List.getD_eq_getElem?_getD, List.getElem?_append_left hi]
    show w.ownsRow base 89 2 (.slice X.ta tk.length X.tc) tk.length ((List.range (tk.length * 2)).map (tkF tk H))
    refine ⟨by simp, ?_⟩
    rcases ho.2 with ⟨e, h0⟩ | ⟨g, cap, cur, e, hb, hg, hn, hm, hcs, ht⟩
    · omega
    · injection e with e1 e2 e3
      refine .inr ⟨g, cap, cur, by rw [e1, e3], hb, hg, by omega, hm, hcs, ?_⟩
      rw [hvals, ← ht, List.take_take]
      congr 1
      omega
  · have hi2 : i < tk.length := hi
    have := h.tk.rows i (by omega)
    rwa [hrow i hi2] at this
/-- The current task's row becomes another one: in its memory. -/
theorem PM.putRow (h : PM w base pb st X K H R s) {tk : List (Nat × List Nat)} {sp : Nat} {r r' : List Nat} {V : Value} (hx : s.tk = tk ++ [(sp, r)]) (ho : w1.ownsRow base 3 1 V r'.length (nv r')) (hk : Keeps (fun k => (R tk.length).ownBlock = some k) w w1) (hm : ∀ b, V.ownBlock = some b → (R tk.length).ownBlock = some b ∨ w.heap.size ≤ b) :
    PM w1 base pb st X K H (upd R tk.length V) { s with tk := tk ++ [(sp, r')] } := by
  have hlen : s.tk.length = tk.length + 1 := by rw [hx]; simp
  have hr := h.tk.rows tk.length (by omega)
  have hT := onlyT_own hr
  refine ⟨?_, h.low, h.vw.other hk hT (by decide) (by decide), ⟨?_, fun i hi => ?_, ?_⟩, h.ar.other hk (fun i e => row_low hr e), row_other h.mg hk hT (by decide)⟩
  · have := blk_other h.blk hk hT (by decide)
    rw [this]
    simp [PX.cells, hx]
  · have ho2 := row_other h.tk.tks hk hT (by decide)
    show w1.ownsRow base 89 2 (.slice X.ta (tk ++ [(sp, r')]).length X.tc) (tk ++ [(sp, r')]).length ((List.range ((tk ++ [(sp, r')]).length * 2)).map (tkF (tk ++ [(sp, r')]) H))
    have e1 : (tk ++ [(sp, r')]).length = s.tk.length := by rw [hx]; simp
    rw [e1]
    rwa [tk_cong (tk' := s.tk) (H' := H) (fun i hi => ?_) (fun _ _ => rfl)]
    rw [hx, List.getD_eq_getElem?_getD, List.getD_eq_getElem?_getD]
    by_cases e : i < tk.length
    · rw [List.getElem?_append_left e, List.getElem?_append_left e]
    · rw [List.getElem?_append_right (by omega), List.getElem?_append_right (by omega), show i - tk.length = 0 by omega]
      rfl
  · have hi2 : i < tk.length + 1 := by have : i < (tk ++ [(sp, r')]).length := hi; simpa using this
    show w1.ownsRow base 3 1 (upd R tk.length V i) (rowOf (tk ++ [(sp, r')]) i).length (nv (rowOf (tk ++ [(sp, r')]) i))
    rw [rowOf_more tk (sp, r') i hi]
    by_cases e : i = tk.length
    · subst e
      rw [upd_eq, if_pos rfl]
      exact ho
    · rw [upd_ne e, if_neg e]
      have := h.tk.rows i (by omega)
      rw [hx, rowOf_more tk (sp, r) i (by simp; omega), if_neg e] at this
      exact row_kept this hk (fun b e1 e2 => h.tk.apart i tk.length b (by omega) (by omega) e e1 e2)
  · intro i j b hi hj hij
    have hi2 : i < tk.length + 1 := by have : i < (tk ++ [(sp, r')]).length := hi; simpa using this
    have hj2 : j < tk.length + 1 := by have : j < (tk ++ [(sp, r')]).length := hj; simpa using this
    by_cases ei : i = tk.length
    · subst ei
      rw [upd_eq, upd_ne (Ne.symm hij)]
      intro e1 e2
      rcases hm b e1 with h3 | h3
      · exact h.tk.apart _ j b (by omega) (by omega) hij h3 e2
      · have := own_lt (h.tk.rows j (by omega)) e2
        omega
    · rw [upd_ne ei]
      by_cases ej : j = tk.length
      · subst ej
        rw [upd_eq]
        intro e1 e2
        rcases hm b e2 with h3 | h3
        · exact h.tk.apart i _ b (by omega) (by omega) hij e1 h3
        · have := own_lt (h.tk.rows i (by omega)) e1
          omega
      · rw [upd_ne ej]
        exact h.tk.apart i j b (by omega) (by omega) hij
/-- What the tasks say of the current one's row is set. -/
theorem PM.setHead (h : PM w base pb st X K H R s) {tb i : Nat} {V : Value} (hta : X.ta = some ⟨tb, 0, none⟩) : PM (w.setCell ⟨tb, i * 2 + 1, none⟩ V) base pb st X K (upd H i V) R s := by
  obtain ⟨cur, hcur⟩ := own_block h.tk.tks (g := tb) (by rw [hta]; rfl)
  have hk : Keeps (· = tb) w (w.setCell ⟨tb, i * 2 + 1, none⟩ V) := keeps_one (Keeps.refl _ _) _
  have hT : OnlyT (· = tb) w 89 := onlyT_one hcur
  have hlo : base ≤ tb := row_low h.tk.tks (by rw [hta]; rfl)
  refine ⟨blk_other h.blk hk hT (by decide), h.low, h.vw.other hk hT (by decide) (by decide), ⟨?_, fun i hi => row_other (h.tk.rows i hi) hk hT (by decide), h.tk.apart⟩, h.ar.other hk (fun i e => by omega), row_other h.mg hk hT (by decide)⟩
  have ho := h.tk.tks
  rw [← tk_setH]
  rw [hta] at ho ⊢
  exact row_set ho _ V
end
end Go.Proofs.Ytdiabpoafennlab
/-! The player's small calls: a new view, which is in hand, which task is there, its end, the next pick. -/
namespace Go.Proofs.Ytdiabpoafennlab
set_option linter.unusedVariables false
set_option maxRecDepth 20000
set_option linter.unusedSimpArgs false
open Go.RowKit Go.HeapKit

theorem fresh_ok (w : World) : Calls Try.prog 33 #[] w fun e w' => e = .returned (.slice none 0 0) ∧ w' = w := by
  go_enter Try.func33, Try.ntmps33
  go_wp2
  go_ret
  exact ⟨rfl, rfl⟩
theorem PM.c0 {w : World} {base pb : Nat} {st : List Bool} {X : PX} {K : Ky → Value} {H R : Nat → Value} {s : PS} (h : PM w base pb st X K H R s) : w.cell? ⟨pb, 0, none⟩ = some (.func (.func 33) #[] #[]) ∧ w.cell? ⟨pb, 1, none⟩ = some (.func (.func 34) #[] #[]) ∧ w.cell? ⟨pb, 2, none⟩ = some (.func (.func 35) #[] #[]) ∧ w.cell? ⟨pb, 3, none⟩ = some (.func (.func 36) #[] #[]) ∧
    w.cell? ⟨pb, 4, none⟩ = some (.slice X.sa st.length X.sc) ∧ w.cell? ⟨pb, 5, none⟩ = some (.slice X.pa s.pk.length X.pc) ∧ w.cell? ⟨pb, 6, none⟩ = some (.slice X.va s.vs.length X.vc) ∧ w.cell? ⟨pb, 7, none⟩ = some (.slice X.ta s.tk.length X.tc) ∧ w.cell? ⟨pb, 8, none⟩ = some (.int .i64 s.spn) ∧ w.cell? ⟨pb, 9, none⟩ = some (.slice X.ma s.mg.length X.mc) ∧ w.cell? ⟨pb, 10, none⟩ = some (.slice X.la s.lk.length X.lc) :=
  ⟨h.cell 0, h.cell 1, h.cell 2, h.cell 3, h.cell 4, h.cell 5, h.cell 6, h.cell 7, h.cell 8, h.cell 9, h.cell 10⟩
set_option maxHeartbeats 1600000 in
theorem newView_ok (base pb : Nat) (st : List Bool) (X : PX) (K : Ky → Value) (H R : Nat → Value) (s : PS) (w : World) (h : PM w base pb st X K H R s) (hb : base ≤ w.heap.size) (hn : s.vs.length ≤ 100000) :
    Calls Try.prog 29 #[.pointer (some ⟨pb, 0, none⟩)] w fun e w' => e = .returned (.int .i64 s.vs.length) ∧ (∃ X' K', PM w' base pb st X' K' H R { s with vs := s.vs ++ [[]] } ∧ X'.ta = X.ta) ∧ Keeps (fun i => base ≤ i) w w' := by
  obtain ⟨q0, -, -, -, -, -, q6, -, -, -, -⟩ := h.c0
  have hf6 := h.free 6
  have HK0 : Hid (Keeps (fun i => base ≤ i) w (w.drew)) := Keeps.drew _ w
  have hd : PM (w.drew.alloc (.cells #[.slice none 0 0] 28)) base pb st X K H R s := h.more ((Keeps.drew None w).andAlloc _)
  obtain ⟨g, cap, w1, hr, ho, hk, hm⟩ := rows_more base (.slice X.va s.vs.length X.vc) (.slice none 0 0) s.vs.length _ 30 w.drew.heap.size (w.drew.alloc (.cells #[.slice none 0 0] 28)) hd.vw.views (by simp; show base ≤ w.heap.size + 1; omega) (by omega) rfl (blk_new _ _ _ rfl)
  have hP := hd.newView ho hk hm
  have hb1 := blk_other hd.blk hk (onlyT_own hd.vw.views) (by decide)
  have q61 : w1.cell? ⟨pb, 6, none⟩ = some (.slice X.va s.vs.length X.vc) := blk_cell hb1 6
  have q01 : w1.cell? ⟨pb, 0, none⟩ = some (.func (.func 33) #[] #[]) := blk_cell hb1 0
  have hf61 : w1.frozen? ⟨pb, 6, none⟩ = false := blk_free hb1 6
  have hlo := hd.vw.views
  have q0A : (w.drew.alloc (.cells #[.slice none 0 0] 28)).cell? ⟨pb, 0, none⟩ = some (.func (.func 33) #[] #[]) := hd.c0.1
  have q0F := hP.c0.1
  have q6A : (w.alloc (.cells #[.slice none 0 0] 28)).cell? ⟨pb, 6, none⟩ = some (.slice X.va s.vs.length X.vc) := hd.c0.2.2.2.2.2.2.1
  have HF : Hid (PM (w1.setCell ⟨pb, 6, none⟩ (.slice (some ⟨g, 0, none⟩) (s.vs.length + 1) cap)) base pb st { X with va := some ⟨g, 0, none⟩, vc := cap } (upd K (.inl s.vs.length) (.slice none 0 0)) H R { s with vs := s.vs ++ [[]] } ∧ Keeps (fun i => base ≤ i) w (w1.setCell ⟨pb, 6, none⟩ (.slice (some ⟨g, 0, none⟩) (s.vs.length + 1) cap))) :=
    ⟨hP, ((((Keeps.drew (fun i => base ≤ i) w).andAlloc _).trans hk (fun i e _ => row_low hlo e)).andSet (x := ⟨pb, 6, none⟩) (.inl h.low) _)⟩
  have q62 : (w1.setCell ⟨pb, 6, none⟩ (.slice (some ⟨g, 0, none⟩) (s.vs.length + 1) cap)).cell? ⟨pb, 6, none⟩ = some (.slice (some ⟨g, 0, none⟩) (s.vs ++ [[]]).length cap) := hP.c0.2.2.2.2.2.2.1
  rw [List.length_append, List.length_singleton] at q62
  have HN : Hid (s.vs.length ≤ 100000) := hn
  have hw : wrap64 (((s.vs.length + 1 : Nat) : Int) - 1) = ((s.vs.length : Nat) : Int) := by unfold wrap64; omega
  clear hP hd ho hk hm hb1 hlo h hb
  go_enter Try.func29, Try.ntmps29
  go_upto_region 1 with fail
  refine wp_region_held_drew (S := (fun w' => w'.cell? ⟨pb, 0, none⟩ = some (.func (.func 33) #[] #[]))) (by kernel_rfl) ?_ (fun hHeld => ?_)
  · (try dsimp only); first | exact q0 | exact q0A | exact q01 | exact q0F
  refine wpAnyH_take (i := 0) (oi := { dst := some 3, op := Op.move (Operand.tmp 0), type := 48, pos := "play.go:66", after := #[], guard := none }) (v := ?_) rfl (by kernel_rfl) (by kernel_rfl) (by kernel_rfl) (fun _ _ _ h => h) (Or.inl ⟨by rfl, ?_⟩) (by assumption) ?_
  rotate_left
  · (intro wz hSw; (try dsimp only at hSw); go_simp; try with_reducible rfl)
  simp only [Act.put, List.setIfInBounds_toArray, List.set_cons_zero, List.set_cons_succ]
  refine wpAnyH_take (i := 1) (oi := { dst := some 4, op := Op.move (Operand.tmp 0), type := 48, pos := "play.go:66", after := #[], guard := none }) (v := ?_) rfl (by kernel_rfl) (by kernel_rfl) (by kernel_rfl) (fun _ _ _ h => h) (Or.inl ⟨by rfl, ?_⟩) (by assumption) ?_
  rotate_left
  · (intro wz hSw; (try dsimp only at hSw); go_simp; try with_reducible rfl)
  simp only [Act.put, List.setIfInBounds_toArray, List.set_cons_zero, List.set_cons_succ]
  refine wpAnyH_take (i := 2) (oi := { dst := some 5, op := Op.nilCheck (Operand.tmp 4), type := 0, pos := "play.go:66", after := #[{ on := 1, ground := Ground.data }], guard := none }) (v := ?_) rfl (by kernel_rfl) (by kernel_rfl) (by kernel_rfl) (fun _ _ _ h => h) (Or.inl ⟨by rfl, ?_⟩) (by assumption) ?_
  rotate_left
  · (intro wz hSw; (try dsimp only at hSw); go_simp; try with_reducible rfl)
  simp only [Act.put, List.setIfInBounds_toArray, List.set_cons_zero, List.set_cons_succ]
  refine wpAnyH_take (i := 3) (oi := { dst := some 6, op := Op.fieldAddr 59 (Operand.tmp 5) 3, type := 0, pos := "play.go:66", after := #[{ on := 2, ground := Ground.data }], guard := none }) (v := ?_) rfl (by kernel_rfl) (by kernel_rfl) (by kernel_rfl) (fun _ _ _ h => h) (Or.inl ⟨by rfl, ?_⟩) (by assumption) ?_
  rotate_left
  · (intro wz hSw; (try dsimp only at hSw); go_simp; try with_reducible rfl)
  simp only [Act.put, List.setIfInBounds_toArray, List.set_cons_zero, List.set_cons_succ]
  refine wpAnyH_take (i := 5) (oi := { dst := some 8, op := Op.move (Operand.tmp 0), type := 48, pos := "play.go:66", after := #[], guard := none }) (v := ?_) rfl (by kernel_rfl) (by kernel_rfl) (by kernel_rfl) (fun _ _ _ h => h) (Or.inl ⟨by rfl, ?_⟩) (by assumption) ?_
  rotate_left
  · (intro wz hSw; (try dsimp only at hSw); go_simp; try with_reducible rfl)
  simp only [Act.put, List.setIfInBounds_toArray, List.set_cons_zero, List.set_cons_succ]
  refine wpAnyH_take (i := 6) (oi := { dst := some 9, op := Op.nilCheck (Operand.tmp 8), type := 0, pos := "play.go:66", after := #[{ on := 5, ground := Ground.data }], guard := none }) (v := ?_) rfl (by kernel_rfl) (by kernel_rfl) (by kernel_rfl) (fun _ _ _ h => h) (Or.inl ⟨by rfl, ?_⟩) (by assumption) ?_
  rotate_left
  · (intro wz hSw; (try dsimp only at hSw); go_simp; try with_reducible rfl)
  simp only [Act.put, List.setIfInBounds_toArray, List.set_cons_zero, List.set_cons_succ]
  refine wpAnyH_take (i := 7) (oi := { dst := some 10, op := Op.fieldAddr 59 (Operand.tmp 9) 0, type := 0, pos := "play.go:66", after := #[{ on := 6, ground := Ground.data }], guard := none }) (v := ?_) rfl (by kernel_rfl) (by kernel_rfl) (by kernel_rfl) (fun _ _ _ h => h) (Or.inl ⟨by rfl, ?_⟩) (by assumption) ?_
  rotate_left
  · (intro wz hSw; (try dsimp only at hSw); go_simp; try with_reducible rfl)
  simp only [Act.put, List.setIfInBounds_toArray, List.set_cons_zero, List.set_cons_succ]
  refine wpAnyH_take (i := 8) (oi := { dst := some 11, op := Op.fieldAddr 55 (Operand.tmp 10) 0, type := 0, pos := "play.go:66", after := #[{ on := 7, ground := Ground.data }], guard := none }) (v := ?_) rfl (by kernel_rfl) (by kernel_rfl) (by kernel_rfl) (fun _ _ _ h => h) (Or.inl ⟨by rfl, ?_⟩) (by assumption) ?_
  rotate_left
  · (intro wz hSw; (try dsimp only at hSw); go_simp; try with_reducible rfl)
  simp only [Act.put, List.setIfInBounds_toArray, List.set_cons_zero, List.set_cons_succ]
  refine wpAnyH_take (i := 9) (oi := { dst := some 12, op := Op.load 50 (Operand.tmp 11), type := 50, pos := "play.go:66", after := #[{ on := 8, ground := Ground.data }], guard := none }) (v := ?_) rfl (by kernel_rfl) (by kernel_rfl) (by kernel_rfl) (fun _ _ _ h => h) (Or.inl ⟨by rfl, ?_⟩) (by assumption) ?_
  rotate_left
  · (intro wz hSw; (try dsimp only at hSw); go_simp; try with_reducible rfl)
  simp only [Act.put, List.setIfInBounds_toArray, List.set_cons_zero, List.set_cons_succ]
  refine wpAnyH_ready (rs := [4, 10]) (by kernel_rfl) (by simp) ?_
  refine AllReadyH.cons (o := { dst := some 7, op := Op.load 30 (Operand.tmp 6), type := 30, pos := "play.go:66", after := #[{ on := 3, ground := Ground.data }], guard := none }) rfl (fun K hK => ?_) ?_
  · go_simp
    refine hK.out _ _ ?_ (fun hHeld2 => ?_)
    · (try dsimp only); first | exact q0 | exact q0A | exact q01 | exact q0F
    clear hK K
    try simp only [Act.put, List.setIfInBounds_toArray, List.set_cons_zero, List.set_cons_succ]
    refine wpAnyH_ready (rs := [10]) (by kernel_rfl) (by simp) ?_
    refine AllReadyH.cons (o := { dst := some 13, op := Op.call { callee := Callee.value (Operand.tmp 12), args := #[], argTypes := #[] }, type := 28, pos := "play.go:66", after := #[{ on := 9, ground := Ground.data }], guard := none }) rfl (fun K hK => ?_) ?_
    · go_simp
      refine (fresh_ok _).mono ?_
      rintro _ _ ⟨rfl, rfl⟩
      refine hK.out _ _ ?_ (fun hHeld2 => ?_)
      · (try dsimp only); first | exact q0 | exact q0A | exact q01 | exact q0F
      clear hK K
      try simp only [Act.put, List.setIfInBounds_toArray, List.set_cons_zero, List.set_cons_succ]
      refine wpAnyH_ready (rs := [11]) (by kernel_rfl) (by simp) ?_
      refine AllReadyH.cons (o := { dst := some 14, op := Op.buildSlice 30 1 #[(0, Operand.tmp 13)], type := 30, pos := "play.go:66", after := #[{ on := 10, ground := Ground.data }], guard := none }) rfl (fun K hK => ?_) ?_
      · go_simp
        refine hK.out _ _ ?_ (fun hHeld2 => ?_)
        · (try dsimp only); first | exact q0 | exact q0A | exact q01 | exact q0F
        clear hK K
        try simp only [Act.put, List.setIfInBounds_toArray, List.set_cons_zero, List.set_cons_succ]
        refine wpAnyH_ready (rs := [12]) (by kernel_rfl) (by simp) ?_
        refine AllReadyH.cons (o := { dst := some 15, op := Op.call { callee := Callee.builtin Builtin.append, args := #[Operand.tmp 7, Operand.tmp 14], argTypes := #[30, 30] }, type := 30, pos := "play.go:66", after := #[{ on := 4, ground := Ground.data }, { on := 11, ground := Ground.data }, { on := 10, ground := Ground.chain }], guard := none }) rfl (fun K hK => ?_) ?_
        · refine step_append_run rfl (.tmp 7) (.tmp 14) 30 30 rfl (by first | rfl | simp [Act.eval]) (by first | rfl | simp [Act.eval]) hr ?_
          refine hK.out _ _ ?_ (fun hHeld2 => ?_)
          · (try dsimp only); first | exact q0 | exact q0A | exact q01 | exact q0F
          clear hK K
          try simp only [Act.put, List.setIfInBounds_toArray, List.set_cons_zero, List.set_cons_succ]
          refine wpAnyH_take (i := 13) (oi := { dst := some 16, op := Op.nilCheck (Operand.tmp 3), type := 0, pos := "play.go:66", after := #[{ on := 0, ground := Ground.data }, { on := 0, ground := Ground.phase }, { on := 1, ground := Ground.phase }, { on := 2, ground := Ground.phase }, { on := 3, ground := Ground.phase }, { on := 4, ground := Ground.phase }, { on := 5, ground := Ground.phase }, { on := 6, ground := Ground.phase }, { on := 7, ground := Ground.phase }, { on := 8, ground := Ground.phase }, { on := 9, ground := Ground.phase }, { on := 10, ground := Ground.phase }, { on := 11, ground := Ground.phase }, { on := 12, ground := Ground.phase }], guard := none }) (v := ?_) rfl (by kernel_rfl) (by kernel_rfl) (by kernel_rfl) (fun _ _ _ h => h) (Or.inl ⟨by rfl, ?_⟩) (by assumption) ?_
          rotate_left
          · (intro wz hSw; (try dsimp only at hSw); go_simp; try with_reducible rfl)
          simp only [Act.put, List.setIfInBounds_toArray, List.set_cons_zero, List.set_cons_succ]
          refine wpAnyH_take (i := 14) (oi := { dst := some 17, op := Op.fieldAddr 59 (Operand.tmp 16) 3, type := 0, pos := "play.go:66", after := #[{ on := 13, ground := Ground.data }, { on := 0, ground := Ground.phase }, { on := 1, ground := Ground.phase }, { on := 2, ground := Ground.phase }, { on := 3, ground := Ground.phase }, { on := 4, ground := Ground.phase }, { on := 5, ground := Ground.phase }, { on := 6, ground := Ground.phase }, { on := 7, ground := Ground.phase }, { on := 8, ground := Ground.phase }, { on := 9, ground := Ground.phase }, { on := 10, ground := Ground.phase }, { on := 11, ground := Ground.phase }, { on := 12, ground := Ground.phase }], guard := none }) (v := ?_) rfl (by kernel_rfl) (by kernel_rfl) (by kernel_rfl) (fun _ _ _ h => h) (Or.inl ⟨by rfl, ?_⟩) (by assumption) ?_
          rotate_left
          · (intro wz hSw; (try dsimp only at hSw); go_simp; try with_reducible rfl)
          simp only [Act.put, List.setIfInBounds_toArray, List.set_cons_zero, List.set_cons_succ]
          refine wpAnyH_ready (rs := [15]) (by kernel_rfl) (by simp) ?_
          refine AllReadyH.cons (o := { dst := none, op := Op.store 30 (Operand.tmp 17) (Operand.tmp 15), type := 0, pos := "play.go:66", after := #[{ on := 14, ground := Ground.data }, { on := 12, ground := Ground.data }, { on := 12, ground := Ground.chain }, { on := 0, ground := Ground.phase }, { on := 1, ground := Ground.phase }, { on := 2, ground := Ground.phase }, { on := 3, ground := Ground.phase }, { on := 4, ground := Ground.phase }, { on := 5, ground := Ground.phase }, { on := 6, ground := Ground.phase }, { on := 7, ground := Ground.phase }, { on := 8, ground := Ground.phase }, { on := 9, ground := Ground.phase }, { on := 10, ground := Ground.phase }, { on := 11, ground := Ground.phase }, { on := 12, ground := Ground.phase }], guard := none }) rfl (fun K hK => ?_) ?_
          · go_simp
            refine hK.out _ _ ?_ (fun hHeld2 => ?_)
            · (try dsimp only); first | exact q0 | exact q0A | exact q01 | exact q0F
            clear hK K
            try simp only [Act.put, List.setIfInBounds_toArray, List.set_cons_zero, List.set_cons_succ]
            refine wpAnyH_done (by kernel_rfl) ?_ _
            go_wp2_with fail
            go_ret
            exact ⟨rfl, ⟨_, _, HF.out.1, rfl⟩, HF.out.2⟩
          exact AllReadyH.nil
        exact AllReadyH.nil
      exact AllReadyH.nil
    exact AllReadyH.nil
  refine AllReadyH.cons (o := { dst := some 13, op := Op.call { callee := Callee.value (Operand.tmp 12), args := #[], argTypes := #[] }, type := 28, pos := "play.go:66", after := #[{ on := 9, ground := Ground.data }], guard := none }) rfl (fun K hK => ?_) ?_
  · go_simp
    refine (fresh_ok _).mono ?_
    rintro _ _ ⟨rfl, rfl⟩
    refine hK.out _ _ ?_ (fun hHeld2 => ?_)
    · (try dsimp only); first | exact q0 | exact q0A | exact q01 | exact q0F
    clear hK K
    try simp only [Act.put, List.setIfInBounds_toArray, List.set_cons_zero, List.set_cons_succ]
    refine wpAnyH_ready (rs := [4, 11]) (by kernel_rfl) (by simp) ?_
    refine AllReadyH.cons (o := { dst := some 7, op := Op.load 30 (Operand.tmp 6), type := 30, pos := "play.go:66", after := #[{ on := 3, ground := Ground.data }], guard := none }) rfl (fun K hK => ?_) ?_
    · go_simp
      refine hK.out _ _ ?_ (fun hHeld2 => ?_)
      · (try dsimp only); first | exact q0 | exact q0A | exact q01 | exact q0F
      clear hK K
      try simp only [Act.put, List.setIfInBounds_toArray, List.set_cons_zero, List.set_cons_succ]
      refine wpAnyH_ready (rs := [11]) (by kernel_rfl) (by simp) ?_
      refine AllReadyH.cons (o := { dst := some 14, op := Op.buildSlice 30 1 #[(0, Operand.tmp 13)], type := 30, pos := "play.go:66", after := #[{ on := 10, ground := Ground.data }], guard := none }) rfl (fun K hK => ?_) ?_
      · go_simp
        refine hK.out _ _ ?_ (fun hHeld2 => ?_)
        · (try dsimp only); first | exact q0 | exact q0A | exact q01 | exact q0F
        clear hK K
        try simp only [Act.put, List.setIfInBounds_toArray, List.set_cons_zero, List.set_cons_succ]
        refine wpAnyH_ready (rs := [12]) (by kernel_rfl) (by simp) ?_
        refine AllReadyH.cons (o := { dst := some 15, op := Op.call { callee := Callee.builtin Builtin.append, args := #[Operand.tmp 7, Operand.tmp 14], argTypes := #[30, 30] }, type := 30, pos := "play.go:66", after := #[{ on := 4, ground := Ground.data }, { on := 11, ground := Ground.data }, { on := 10, ground := Ground.chain }], guard := none }) rfl (fun K hK => ?_) ?_
        · refine step_append_run rfl (.tmp 7) (.tmp 14) 30 30 rfl (by first | rfl | simp [Act.eval]) (by first | rfl | simp [Act.eval]) hr ?_
          refine hK.out _ _ ?_ (fun hHeld2 => ?_)
          · (try dsimp only); first | exact q0 | exact q0A | exact q01 | exact q0F
          clear hK K
          try simp only [Act.put, List.setIfInBounds_toArray, List.set_cons_zero, List.set_cons_succ]
          refine wpAnyH_take (i := 13) (oi := { dst := some 16, op := Op.nilCheck (Operand.tmp 3), type := 0, pos := "play.go:66", after := #[{ on := 0, ground := Ground.data }, { on := 0, ground := Ground.phase }, { on := 1, ground := Ground.phase }, { on := 2, ground := Ground.phase }, { on := 3, ground := Ground.phase }, { on := 4, ground := Ground.phase }, { on := 5, ground := Ground.phase }, { on := 6, ground := Ground.phase }, { on := 7, ground := Ground.phase }, { on := 8, ground := Ground.phase }, { on := 9, ground := Ground.phase }, { on := 10, ground := Ground.phase }, { on := 11, ground := Ground.phase }, { on := 12, ground := Ground.phase }], guard := none }) (v := ?_) rfl (by kernel_rfl) (by kernel_rfl) (by kernel_rfl) (fun _ _ _ h => h) (Or.inl ⟨by rfl, ?_⟩) (by assumption) ?_
          rotate_left
          · (intro wz hSw; (try dsimp only at hSw); go_simp; try with_reducible rfl)
          simp only [Act.put, List.setIfInBounds_toArray, List.set_cons_zero, List.set_cons_succ]
          refine wpAnyH_take (i := 14) (oi := { dst := some 17, op := Op.fieldAddr 59 (Operand.tmp 16) 3, type := 0, pos := "play.go:66", after := #[{ on := 13, ground := Ground.data }, { on := 0, ground := Ground.phase }, { on := 1, ground := Ground.phase }, { on := 2, ground := Ground.phase }, { on := 3, ground := Ground.phase }, { on := 4, ground := Ground.phase }, { on := 5, ground := Ground.phase }, { on := 6, ground := Ground.phase }, { on := 7, ground := Ground.phase }, { on := 8, ground := Ground.phase }, { on := 9, ground := Ground.phase }, { on := 10, ground := Ground.phase }, { on := 11, ground := Ground.phase }, { on := 12, ground := Ground.phase }], guard := none }) (v := ?_) rfl (by kernel_rfl) (by kernel_rfl) (by kernel_rfl) (fun _ _ _ h => h) (Or.inl ⟨by rfl, ?_⟩) (by assumption) ?_
          rotate_left
          · (intro wz hSw; (try dsimp only at hSw); go_simp; try with_reducible rfl)
          simp only [Act.put, List.setIfInBounds_toArray, List.set_cons_zero, List.set_cons_succ]
          refine wpAnyH_ready (rs := [15]) (by kernel_rfl) (by simp) ?_
          refine AllReadyH.cons (o := { dst := none, op := Op.store 30 (Operand.tmp 17) (Operand.tmp 15), type := 0, pos := "play.go:66", after := #[{ on := 14, ground := Ground.data }, { on := 12, ground := Ground.data }, { on := 12, ground := Ground.chain }, { on := 0, ground := Ground.phase }, { on := 1, ground := Ground.phase }, { on := 2, ground := Ground.phase }, { on := 3, ground := Ground.phase }, { on := 4, ground := Ground.phase }, { on := 5, ground := Ground.phase }, { on := 6, ground := Ground.phase }, { on := 7, ground := Ground.phase }, { on := 8, ground := Ground.phase }, { on := 9, ground := Ground.phase }, { on := 10, ground := Ground.phase }, { on := 11, ground := Ground.phase }, { on := 12, ground := Ground.phase }], guard := none }) rfl (fun K hK => ?_) ?_
          · go_simp
            refine hK.out _ _ ?_ (fun hHeld2 => ?_)
            · (try dsimp only); first | exact q0 | exact q0A | exact q01 | exact q0F
            clear hK K
            try simp only [Act.put, List.setIfInBounds_toArray, List.set_cons_zero, List.set_cons_succ]
            refine wpAnyH_done (by kernel_rfl) ?_ _
            go_wp2_with fail
            go_ret
            exact ⟨rfl, ⟨_, _, HF.out.1, rfl⟩, HF.out.2⟩
          exact AllReadyH.nil
        exact AllReadyH.nil
      exact AllReadyH.nil
    refine AllReadyH.cons (o := { dst := some 14, op := Op.buildSlice 30 1 #[(0, Operand.tmp 13)], type := 30, pos := "play.go:66", after := #[{ on := 10, ground := Ground.data }], guard := none }) rfl (fun K hK => ?_) ?_
    · go_simp
      refine hK.out _ _ ?_ (fun hHeld2 => ?_)
      · (try dsimp only); first | exact q0 | exact q0A | exact q01 | exact q0F
      clear hK K
      try simp only [Act.put, List.setIfInBounds_toArray, List.set_cons_zero, List.set_cons_succ]
      refine wpAnyH_ready (rs := [4]) (by kernel_rfl) (by simp) ?_
      refine AllReadyH.cons (o := { dst := some 7, op := Op.load 30 (Operand.tmp 6), type := 30, pos := "play.go:66", after := #[{ on := 3, ground := Ground.data }], guard := none }) rfl (fun K hK => ?_) ?_
      · go_simp
        refine hK.out _ _ ?_ (fun hHeld2 => ?_)
        · (try dsimp only); first | exact q0 | exact q0A | exact q01 | exact q0F
        clear hK K
        try simp only [Act.put, List.setIfInBounds_toArray, List.set_cons_zero, List.set_cons_succ]
        refine wpAnyH_ready (rs := [12]) (by kernel_rfl) (by simp) ?_
        refine AllReadyH.cons (o := { dst := some 15, op := Op.call { callee := Callee.builtin Builtin.append, args := #[Operand.tmp 7, Operand.tmp 14], argTypes := #[30, 30] }, type := 30, pos := "play.go:66", after := #[{ on := 4, ground := Ground.data }, { on := 11, ground := Ground.data }, { on := 10, ground := Ground.chain }], guard := none }) rfl (fun K hK => ?_) ?_
        · refine step_append_run rfl (.tmp 7) (.tmp 14) 30 30 rfl (by first | rfl | simp [Act.eval]) (by first | rfl | simp [Act.eval]) hr ?_
          refine hK.out _ _ ?_ (fun hHeld2 => ?_)
          · (try dsimp only); first | exact q0 | exact q0A | exact q01 | exact q0F
          clear hK K
          try simp only [Act.put, List.setIfInBounds_toArray, List.set_cons_zero, List.set_cons_succ]
          refine wpAnyH_take (i := 13) (oi := { dst := some 16, op := Op.nilCheck (Operand.tmp 3), type := 0, pos := "play.go:66", after := #[{ on := 0, ground := Ground.data }, { on := 0, ground := Ground.phase }, { on := 1, ground := Ground.phase }, { on := 2, ground := Ground.phase }, { on := 3, ground := Ground.phase }, { on := 4, ground := Ground.phase }, { on := 5, ground := Ground.phase }, { on := 6, ground := Ground.phase }, { on := 7, ground := Ground.phase }, { on := 8, ground := Ground.phase }, { on := 9, ground := Ground.phase }, { on := 10, ground := Ground.phase }, { on := 11, ground := Ground.phase }, { on := 12, ground := Ground.phase }], guard := none }) (v := ?_) rfl (by kernel_rfl) (by kernel_rfl) (by kernel_rfl) (fun _ _ _ h => h) (Or.inl ⟨by rfl, ?_⟩) (by assumption) ?_
          rotate_left
          · (intro wz hSw; (try dsimp only at hSw); go_simp; try with_reducible rfl)
          simp only [Act.put, List.setIfInBounds_toArray, List.set_cons_zero, List.set_cons_succ]
          refine wpAnyH_take (i := 14) (oi := { dst := some 17, op := Op.fieldAddr 59 (Operand.tmp 16) 3, type := 0, pos := "play.go:66", after := #[{ on := 13, ground := Ground.data }, { on := 0, ground := Ground.phase }, { on := 1, ground := Ground.phase }, { on := 2, ground := Ground.phase }, { on := 3, ground := Ground.phase }, { on := 4, ground := Ground.phase }, { on := 5, ground := Ground.phase }, { on := 6, ground := Ground.phase }, { on := 7, ground := Ground.phase }, { on := 8, ground := Ground.phase }, { on := 9, ground := Ground.phase }, { on := 10, ground := Ground.phase }, { on := 11, ground := Ground.phase }, { on := 12, ground := Ground.phase }], guard := none }) (v := ?_) rfl (by kernel_rfl) (by kernel_rfl) (by kernel_rfl) (fun _ _ _ h => h) (Or.inl ⟨by rfl, ?_⟩) (by assumption) ?_
          rotate_left
          · (intro wz hSw; (try dsimp only at hSw); go_simp; try with_reducible rfl)
          simp only [Act.put, List.setIfInBounds_toArray, List.set_cons_zero, List.set_cons_succ]
          refine wpAnyH_ready (rs := [15]) (by kernel_rfl) (by simp) ?_
          refine AllReadyH.cons (o := { dst := none, op := Op.store 30 (Operand.tmp 17) (Operand.tmp 15), type := 0, pos := "play.go:66", after := #[{ on := 14, ground := Ground.data }, { on := 12, ground := Ground.data }, { on := 12, ground := Ground.chain }, { on := 0, ground := Ground.phase }, { on := 1, ground := Ground.phase }, { on := 2, ground := Ground.phase }, { on := 3, ground := Ground.phase }, { on := 4, ground := Ground.phase }, { on := 5, ground := Ground.phase }, { on := 6, ground := Ground.phase }, { on := 7, ground := Ground.phase }, { on := 8, ground := Ground.phase }, { on := 9, ground := Ground.phase }, { on := 10, ground := Ground.phase }, { on := 11, ground := Ground.phase }, { on := 12, ground := Ground.phase }], guard := none }) rfl (fun K hK => ?_) ?_
          · go_simp
            refine hK.out _ _ ?_ (fun hHeld2 => ?_)
            · (try dsimp only); first | exact q0 | exact q0A | exact q01 | exact q0F
            clear hK K
            try simp only [Act.put, List.setIfInBounds_toArray, List.set_cons_zero, List.set_cons_succ]
            refine wpAnyH_done (by kernel_rfl) ?_ _
            go_wp2_with fail
            go_ret
            exact ⟨rfl, ⟨_, _, HF.out.1, rfl⟩, HF.out.2⟩
          exact AllReadyH.nil
        exact AllReadyH.nil
      exact AllReadyH.nil
    exact AllReadyH.nil
  exact AllReadyH.nil
end Go.Proofs.Ytdiabpoafennlab
/-! The player's small calls: which task is there, which view is in hand, a task's end, the next pick. -/
namespace Go.Proofs.Ytdiabpoafennlab
set_option linter.unusedVariables false
set_option maxRecDepth 20000
set_option linter.unusedSimpArgs false
open Go.RowKit Go.HeapKit

section
variable {w : World} {base pb : Nat} {st : List Bool} {X : PX} {K : Ky → Value} {H R : Nat → Value} {s : PS}
/-- The current task in memory. -/
theorem PM.cur (h : PM w base pb st X K H R s) {tk : List (Nat × List Nat)} {x : Nat × List Nat} (hx : s.tk = tk ++ [x]) : ∃ tb, X.ta = some ⟨tb, 0, none⟩ ∧ base ≤ tb ∧ tb < w.heap.size ∧ tk.length + 1 ≤ X.tc ∧ w.cell? ⟨tb, tk.length * 2, none⟩ = some (.int .i64 x.1) ∧ w.cell? ⟨tb, tk.length * 2 + 1, none⟩ = some (H tk.length) ∧ ∀ i, w.frozen? ⟨tb, i, none⟩ = false := by
  have hl : s.tk.length = tk.length + 1 := by rw [hx]; simp
  obtain ⟨g, e, h1, h2, h3, h4, h5⟩ := own_cellS h.tk.tks (k := tk.length * 2) (range_get _ (by omega))
  obtain ⟨g', e', _, _, _, h6, _⟩ := own_cellS h.tk.tks (k := tk.length * 2 + 1) (range_get _ (by omega))
  rw [e] at e'
  injection e' with e'
  injection e' with e'
  subst e'
  refine ⟨g, e, h1, h2, by omega, ?_, ?_, h5⟩
  · rw [h4]
    simp [tkF, hx]
  · rw [h6]
    simp [tkF, show (tk.length * 2 + 1) % 2 = 1 by omega, show (tk.length * 2 + 1) / 2 = tk.length by omega]
/-- The current task's row in memory. -/
theorem PM.curRow (h : PM w base pb st X K H R s) {tk : List (Nat × List Nat)} {sp : Nat} {r : List Nat} (hx : s.tk = tk ++ [(sp, r)]) : w.ownsRow base 3 1 (R tk.length) r.length (nv r) := by
  have := h.tk.rows tk.length (by rw [hx]; simp)
  rwa [hx, rowOf_more tk (sp, r) _ (by simp), if_pos rfl] at this
theorem nv_at {r : List Nat} {i v : Nat} (h : r[i]? = some v) : (nv r)[i]? = some (.int .i64 v) := by simp [nv, iv, nI, h]
theorem last_at {r : List Nat} (h : r ≠ []) : r[r.length - 1]? = some (r.getLastD 0) := by
  have h1 := hand_split h
  have hl : r.length = r.dropLast.length + 1 := by
    conv => lhs; rw [h1]
    simp
  conv => lhs; rw [h1]
  rw [List.getElem?_append_right (by simp)]
  simp
end
set_option maxHeartbeats 800000 in
theorem current_ok (base pb : Nat) (st : List Bool) (X : PX) (K : Ky → Value) (H R : Nat → Value) (s : PS) (w : World) (tb : Nat) (tk : List (Nat × List Nat)) (x : Nat × List Nat) (h : PM w base pb st X K H R s) (hx : s.tk = tk ++ [x]) (hta : X.ta = some ⟨tb, 0, none⟩) (hn : tk.length ≤ 100000) :
    Calls Try.prog 56 #[.pointer (some ⟨pb, 0, none⟩)] w fun e w' => e = .returned (.pointer (some ⟨tb, tk.length * 2, none⟩)) ∧ Keeps None w w' := by
  obtain ⟨-, -, -, -, -, -, -, q7, -, -, -⟩ := h.c0
  rw [hta, hx, List.length_append, List.length_singleton] at q7
  have hw : wrap64 (((tk.length + 1 : Nat) : Int) - 1) = ((tk.length : Nat) : Int) := by unfold wrap64; omega
  have hw2 : (tk.length : Int) < ((tk.length + 1 : Nat) : Int) := by omega
  clear h hx hta
  go_enter Try.func56, Try.ntmps56
  go_upto_region 1 with fail
  go_quiet (fail)
  go_wp2
  go_ret
  exact ⟨rfl, keeps_drewN _ _⟩
set_option maxHeartbeats 800000 in
theorem hand_ok (base pb : Nat) (st : List Bool) (X : PX) (K : Ky → Value) (R : Nat → Value) (s : PS) (w : World) (tk : List (Nat × List Nat)) (sp : Nat) (r : List Nat) (h : PM w base pb st X K R R s) (hx : s.tk = tk ++ [(sp, r)]) (hr : r ≠ []) (hn : tk.length ≤ 100000) (hn2 : r.length ≤ 100000) :
    Calls Try.prog 55 #[.pointer (some ⟨pb, 0, none⟩)] w fun e w' => e = .returned (.int .i64 (r.getLastD 0 : Nat)) ∧ Keeps None w w' := by
  obtain ⟨tb, hta, -, -, -, -, t1, -⟩ := h.cur hx
  have hrow := h.curRow hx
  obtain ⟨ra, rc, he⟩ := row_shape hrow
  have hpos : 0 < r.length := List.length_pos_iff.2 hr
  rw [he] at hrow t1
  obtain ⟨g, rfl, -, -, hrc, hc, -⟩ := own_cellS hrow (k := r.length - 1) (nv_at (last_at hr))
  obtain ⟨L, hL⟩ : ∃ L, L = r.getLastD 0 := ⟨_, rfl⟩
  rw [← hL] at hc ⊢
  have HP : Hid (PM w base pb st X K R R s ∧ s.tk = tk ++ [(sp, r)] ∧ X.ta = some ⟨tb, 0, none⟩) := ⟨h, hx, hta⟩
  have HC : Hid (w.cell? ⟨tb, tk.length * 2 + 1, none⟩ = some (.slice (some ⟨g, 0, none⟩) r.length rc) ∧ w.cell? ⟨g, r.length - 1, none⟩ = some (.int .i64 L)) := ⟨t1, hc⟩
  have hw : wrap64 ((r.length : Int) - 1) = ((r.length - 1 : Nat) : Int) := by unfold wrap64; omega
  have hw2 : ((r.length - 1 : Nat) : Int) < (r.length : Int) := by omega
  clear h hx hta t1 hc hrow he hr hL
  go_enter Try.func55, Try.ntmps55
  go_wp2_with fail
  refine (current_ok base pb st X K R R s w tb tk (sp, r) HP.out.1 HP.out.2.1 HP.out.2.2 hn).mono ?_
  rintro e w1 ⟨rfl, hk⟩
  have t1 := hk.cell HC.out.1 (fun f => f)
  have hc := hk.cell HC.out.2 (fun f => f)
  go_wp2
  go_ret
  exact ⟨rfl, hk⟩
set_option maxHeartbeats 800000 in
theorem pick_ok (base pb : Nat) (st : List Bool) (X : PX) (K : Ky → Value) (H R : Nat → Value) (s : PS) (w : World) (h : PM w base pb st X K H R s) :
    Calls Try.prog 58 #[.pointer (some ⟨pb, 0, none⟩)] w fun e w' => e = .returned (.int .i64 (s.pk.headD 0)) ∧ (∃ X', PM w' base pb st X' K H R { s with pk := s.pk.tail } ∧ X'.ta = X.ta) ∧ Keeps (· = pb) w w' := by
  obtain ⟨-, -, -, -, -, q5, -, -, -, -, -⟩ := h.c0
  have hf5 := h.free 5
  have hcap := h.ar.capP
  have HP : Hid (PM w base pb st X K H R s) := h
  cases hp : s.pk with
  | nil =>
    rw [hp] at q5
    have HX : Hid (s.pk = []) := hp
    clear h hp hcap
    go_enter Try.func58, Try.ntmps58
    go_wp2
    go_ret
    refine ⟨rfl, ⟨X, ?_, rfl⟩, Keeps.refl _ _⟩
    have e : ({ s with pk := [] } : PS) = s := by rw [← HX.out]
    simp only [List.tail_nil]
    rw [e]
    exact HP.out
  | cons x pk =>
    obtain ⟨b, off, v, ha, -, hv, hc⟩ := h.ar.seenP.at (k := 0) (by rw [hp]; simp)
    rw [hp] at hv q5 hcap
    rw [ha] at q5
    obtain rfl : .int .i64 x = v := by simpa [iv] using hv
    rw [Nat.add_zero] at hc
    have HN : Hid (PM (w.setCell ⟨pb, 5, none⟩ (.slice (if X.pc = 1 then some ⟨b, off, none⟩ else some ⟨b, off + 1, none⟩) pk.length (X.pc - 1))) base pb st { X with pa := if X.pc = 1 then some ⟨b, off, none⟩ else some ⟨b, off + 1, none⟩, pc := X.pc - 1 } K H R { s with pk := pk }) := h.nextPick hp ha
    rw [List.length_cons] at q5 hcap
    have hc1 : 1 ≤ X.pc := by omega
    have hle : pk.length + 1 ≤ X.pc := hcap
    have hsub : pk.length + 1 - 1 = pk.length := by omega
    clear h hp hv ha hcap
    by_cases e1 : X.pc = 1
    · have HE : Hid (X.pc = 1) := e1
      rw [e1] at q5 hc1 hle
      have HN2 : Hid (PM (w.setCell ⟨pb, 5, none⟩ (.slice (some ⟨b, off, none⟩) pk.length 0)) base pb st { X with pa := some ⟨b, off, none⟩, pc := 0 } K H R { s with pk := pk }) := by
        have := HN.out
        rw [e1] at this
        exact this
      clear HN e1
      go_enter Try.func58, Try.ntmps58
      go_wp2
      go_ret
      exact ⟨rfl, ⟨_, HN2.out, rfl⟩, (Keeps.refl (· = pb) w).andSet (x := ⟨pb, 5, none⟩) (.inl rfl) _⟩
    · have HN2 : Hid (PM (w.setCell ⟨pb, 5, none⟩ (.slice (some ⟨b, off + 1, none⟩) pk.length (X.pc - 1))) base pb st { X with pa := some ⟨b, off + 1, none⟩, pc := X.pc - 1 } K H R { s with pk := pk }) := by
        have := HN.out
        simp only [if_neg e1] at this
        exact this
      clear HN
      go_enter Try.func58, Try.ntmps58
      go_wp2
      go_ret
      exact ⟨rfl, ⟨_, HN2.out, rfl⟩, (Keeps.refl (· = pb) w).andSet (x := ⟨pb, 5, none⟩) (.inl rfl) _⟩
end Go.Proofs.Ytdiabpoafennlab
