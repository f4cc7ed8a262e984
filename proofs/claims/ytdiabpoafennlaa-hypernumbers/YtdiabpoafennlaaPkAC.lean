import Derived.Test.YtdiabpoafennlaaPkAB
import Derived.WalkKit
import Derived.Test.YtdiabpoafennlaaProg
import Derived.WalkSpells
import Derived.WalkLawsBesides
/-! The tasks of a reducer's player in memory. -/
namespace Go.Proofs.Ytdiabpoafennlaa
set_option linter.unusedVariables false
set_option maxRecDepth 20000
set_option linter.unusedSimpArgs false
open Go.RowKit Go.HeapKit

theorem tk_cong {tk tk' : List (Nat × List Nat)} {H H' : Nat → Value} {n : Nat} (h1 : ∀ i, i < n → (tk.getD i (0, [])).1 = (tk'.getD i (0, [])).1) (h2 : ∀ i, i < n → H i = H' i) : (List.range (n * 2)).map (tkF tk H) = (List.range (n * 2)).map (tkF tk' H') := by
  refine range_cong (fun k hk => ?_)
  unfold tkF
  rw [h1 _ (by omega), h2 _ (by omega)]
theorem tk_more (tk : List (Nat × List Nat)) (H : Nat → Value) (x : Nat × List Nat) (V : Value) : (List.range ((tk ++ [x]).length * 2)).map (tkF (tk ++ [x]) (upd H tk.length V)) = (List.range (tk.length * 2)).map (tkF tk H) ++ [.int .i64 x.1, V] := by
  have e : (tk ++ [x]).length * 2 = tk.length * 2 + 1 + 1 := by simp; omega
  rw [e, List.range_succ, List.range_succ, List.map_append, List.map_append, List.append_assoc]
  congr 1
  · refine tk_cong (fun i hi => ?_) (fun i hi => upd_ne (by omega))
    rw [List.getD_eq_getElem?_getD, List.getElem?_append_left hi, ← List.getD_eq_getElem?_getD]
  · simp [tkF, show (tk.length * 2 + 1) % 2 = 1 by omega, show (tk.length * 2 + 1) / 2 = tk.length by omega, upd_eq]
theorem tk_setH (tk : List (Nat × List Nat)) (H : Nat → Value) (n i : Nat) (V : Value) : ((List.range (n * 2)).map (tkF tk H)).set (i * 2 + 1) V = (List.range (n * 2)).map (tkF tk (upd H i V)) := by
  rw [range_setF]
  refine range_cong (fun k hk => ?_)
  by_cases e : k = i * 2 + 1
  · subst e
    rw [upd_eq]
    simp [tkF, show (i * 2 + 1) % 2 = 1 by omega, show (i * 2 + 1) / 2 = i by omega, upd_eq]
  · rw [upd_ne e]
    unfold tkF
    by_cases h2 : k % 2 = 0
    · rw [if_pos h2, if_pos h2]
    · rw [if_neg h2, if_neg h2, upd_ne (by omega)]
theorem rowOf_more (tk : List (Nat × List Nat)) (x : Nat × List Nat) (i : Nat) (hi : i < (tk ++ [x]).length) : rowOf (tk ++ [x]) i = if i = tk.length then x.2 else rowOf tk i := by
  unfold rowOf
  rw [List.getD_eq_getElem?_getD, List.getD_eq_getElem?_getD]
  by_cases e : i = tk.length
  · subst e; simp
  · rw [if_neg e, List.getElem?_append_left (by simp at hi; omega)]
theorem Try.infoTask : (Try.prog.info? 84).map (fun i => (i.zero, i.size, i.bytes)) = some (some (.agg #[.int .i64 0, .slice none 0 0]), 2, 32) := by kernel_rfl
theorem Try.infoMerge : (Try.prog.info? 43).map (fun i => (i.zero, i.size, i.bytes)) = some (some (.agg #[.int .i64 0, .int .i64 0, .int .i64 0]), 3, 24) := by kernel_rfl
/-- 'append(tasks, task)'. -/
theorem task_more (base : Nat) (sl : Value) (x : Int) (V : Value) (n : Nat) (xs : List Value) (ty g0 : Nat) (w : World) (h : w.ownsRow base 84 2 sl n xs) (hb : base ≤ w.heap.size) (hlen : (n + 1) * 32 ≤ 140737488355328) (hV : V.oneCell' = true)
    (hg0 : w.heap[g0]? = some (.cells #[.int .i64 x, V] 84 (0, 0))) :
    ∃ g cap w', (Builtin.append_ #[67, 67] ty #[sl, .slice (some ⟨g0, 0, none⟩) 1 1]).run Try.prog w = .ok (.slice (some ⟨g, 0, none⟩) (n + 1) cap) w' ∧
      w'.ownsRow base 84 2 (.slice (some ⟨g, 0, none⟩) (n + 1) cap) (n + 1) (xs ++ [.int .i64 x, V]) ∧ Keeps (fun k => sl.ownBlock = some k) w w' := by
  obtain ⟨i0, hi, hz0, hz1, hz2⟩ := info_parts Try.infoTask
  obtain ⟨v', w1, hr, ho, hgr, hm, -⟩ := run_append_moved (P := Try.prog) w base 67 ty 84 i0 _ 2 32 Try.underlying67 hi hz0 hz1 hz2 rfl (by decide) sl n _ h
    ⟨g0, 0, none⟩ 1 1 [.int .i64 x, V] rfl (by
      intro j u hu
      rw [addr_at, blk_cell hg0]
      simpa using hu) (by
      intro u hu
      simp at hu
      rcases hu with rfl | rfl
      · rfl
      · exact hV) (by unfold maxLen; omega) hlen hb
  obtain ⟨g, cap, rfl⟩ : ∃ g cap, v' = .slice (some ⟨g, 0, none⟩) (n + 1) cap := by
    rcases ho.2 with ⟨_, h0⟩ | ⟨b, cap, cur, rfl, _⟩
    · omega
    · exact ⟨b, cap, rfl⟩
  exact ⟨g, cap, w1, hr, ho, (Keeps.refl _ w).andGrown hgr (fun k e => .inl e)⟩
theorem merge_more (base : Nat) (sl : Value) (mg : List (Nat × Nat × Nat)) (x : Nat × Nat × Nat) (ty g0 : Nat) (w : World) (h : w.ownsRow base 43 3 sl mg.length (mgV mg)) (hb : base ≤ w.heap.size) (hlen : (mg.length + 1) * 24 ≤ 140737488355328)
    (hg0 : w.heap[g0]? = some (.cells #[.int .i64 x.1, .int .i64 x.2.1, .int .i64 x.2.2] 43 (0, 0))) :
    ∃ g cap w', (Builtin.append_ #[36, 36] ty #[sl, .slice (some ⟨g0, 0, none⟩) 1 1]).run Try.prog w = .ok (.slice (some ⟨g, 0, none⟩) (mg.length + 1) cap) w' ∧
      w'.ownsRow base 43 3 (.slice (some ⟨g, 0, none⟩) (mg.length + 1) cap) (mg.length + 1) (mgV (mg ++ [x])) ∧ Keeps (fun k => sl.ownBlock = some k) w w' := by
  obtain ⟨i0, hi, hz0, hz1, hz2⟩ := info_parts Try.infoMerge
  obtain ⟨v', w1, hr, ho, hgr, hm, -⟩ := run_append_moved (P := Try.prog) w base 36 ty 43 i0 _ 3 24 Try.underlying36 hi hz0 hz1 hz2 rfl (by decide) sl mg.length _ h
    ⟨g0, 0, none⟩ 1 1 [.int .i64 x.1, .int .i64 x.2.1, .int .i64 x.2.2] rfl (by
      intro j u hu
      rw [addr_at, blk_cell hg0]
      simpa using hu) (by
      intro u hu
      simp at hu
      rcases hu with rfl | rfl | rfl <;> rfl) (by unfold maxLen; omega) hlen hb
  obtain ⟨g, cap, rfl⟩ : ∃ g cap, v' = .slice (some ⟨g, 0, none⟩) (mg.length + 1) cap := by
    rcases ho.2 with ⟨_, h0⟩ | ⟨b, cap, cur, rfl, _⟩
    · omega
    · exact ⟨b, cap, rfl⟩
  refine ⟨g, cap, w1, hr, ?_, (Keeps.refl _ w).andGrown hgr (fun k e => .inl e)⟩
  simpa [mgV] using ho
theorem row1_more (base : Nat) (sl : Value) (l : List Nat) (x : Nat) (ty g0 : Nat) (w : World) (h : w.ownsRow base 3 1 sl l.length (nv l)) (hb : base ≤ w.heap.size) (hlen : (l.length + 1) * 8 ≤ 140737488355328)
    (hg0 : w.heap[g0]? = some (.cells #[.int .i64 x] 3 (0, 0))) :
    ∃ g cap w', (Builtin.append_ #[24, 24] ty #[sl, .slice (some ⟨g0, 0, none⟩) 1 1]).run Try.prog w = .ok (.slice (some ⟨g, 0, none⟩) (l.length + 1) cap) w' ∧
      w'.ownsRow base 3 1 (.slice (some ⟨g, 0, none⟩) (l.length + 1) cap) (l ++ [x]).length (nv (l ++ [x])) ∧ Keeps (fun k => sl.ownBlock = some k) w w' ∧ (sl.ownBlock = some g ∨ w.heap.size ≤ g) := by
  obtain ⟨i0, hi, hz0, hz1, hz2⟩ := info_parts Try.infoI
  obtain ⟨v', w1, hr, ho, hgr, hm, -⟩ := run_append_moved (P := Try.prog) w base 24 ty 3 i0 _ 1 8 Try.underlying24 hi hz0 hz1 hz2 rfl (by decide) sl l.length _ h
    ⟨g0, 0, none⟩ 1 1 [.int .i64 x] rfl (by
      intro j u hu
      rw [addr_at, blk_cell hg0]
      simpa using hu) (by
      intro u hu
      simp at hu
      subst hu; rfl) (by unfold maxLen; omega) hlen hb
  obtain ⟨g, cap, rfl⟩ : ∃ g cap, v' = .slice (some ⟨g, 0, none⟩) (l.length + 1) cap := by
    rcases ho.2 with ⟨_, h0⟩ | ⟨b, cap, cur, rfl, _⟩
    · omega
    · exact ⟨b, cap, rfl⟩
  refine ⟨g, cap, w1, hr, by simpa [nv, iv, nI] using ho, (Keeps.refl _ w).andGrown hgr (fun k e => .inl e), ?_⟩
  rcases hm with hm | ⟨g', e, hg⟩
  · exact .inl (hm.symm.trans rfl)
  · simp [Value.ownBlock] at e; exact .inr (by omega)
section
variable {w w1 : World} {base pb : Nat} {st : List Bool} {X : PX} {K : Ky → Value} {H R : Nat → Value} {s : PS}
theorem row_same {R : Nat → Value} {tk : List (Nat × List Nat)} {x : Nat × List Nat} {V : Value} {i : Nat} (hi : i < (tk ++ [x]).length) (h1 : i ≠ tk.length) : upd R tk.length V i = R i ∧ rowOf (tk ++ [x]) i = rowOf tk i := ⟨upd_ne h1, by rw [rowOf_more tk x i hi, if_neg h1]⟩
/-- A task begins. -/
theorem PM.spawn (h : PM w base pb st X K H R s) {V : Value} {x : Nat × List Nat} {w2 : World} {g cap : Nat} (hk : Keeps None w w1) (ho : w1.ownsRow base 3 1 V x.2.length (nv x.2)) (hm : ∀ b, V.ownBlock = some b → w.heap.size ≤ b)
    (ho2 : w2.ownsRow base 84 2 (.slice (some ⟨g, 0, none⟩) (s.tk.length + 1) cap) (s.tk.length + 1) ((List.range (s.tk.length * 2)).map (tkF s.tk H) ++ [.int .i64 x.1, V])) (hk2 : Keeps (fun k => (Value.slice X.ta s.tk.length X.tc).ownBlock = some k) w1 w2) :
    PM (w2.setCell ⟨pb, 7, none⟩ (.slice (some ⟨g, 0, none⟩) (s.tk.length + 1) cap)) base pb st { X with ta := some ⟨g, 0, none⟩, tc := cap } K (upd H s.tk.length V) (upd R s.tk.length V) { s with tk := s.tk ++ [x] } := by
  have h1 := h.more hk
  have hT := onlyT_own h1.tk.tks
  refine PM.put (c := X.cells st s) (blk_other h1.blk hk2 hT (by decide)) h.low (by simp [PX.cells]) (h1.vw.other hk2 hT (by decide) (by decide)) ⟨?_, ?_, ?_⟩ (h1.ar.other hk2 (fun i e => row_low h1.tk.tks e)) (row_other h1.mg hk2 hT (by decide))
  · show w2.ownsRow base 84 2 (.slice (some ⟨g, 0, none⟩) (s.tk ++ [x]).length cap) (s.tk ++ [x]).length ((List.range ((s.tk ++ [x]).length * 2)).map (tkF (s.tk ++ [x]) (upd H s.tk.length V)))
    rw [tk_more, List.length_append, List.length_singleton]
    exact ho2
  · intro i hi
    by_cases e : i = s.tk.length
    · subst e
      rw [upd_eq, rowOf_more s.tk x _ hi, if_pos rfl]
      exact row_other ho hk2 hT (by decide)
    · have hr := row_same (R := R) (V := V) hi e
      have hi2 : i < s.tk.length := by have : i < (s.tk ++ [x]).length := hi; simp at this; omega
      show w2.ownsRow base 3 1 (upd R s.tk.length V i) (rowOf (s.tk ++ [x]) i).length (nv (rowOf (s.tk ++ [x]) i))
      rw [hr.1, hr.2]
      exact row_other (h1.tk.rows i hi2) hk2 hT (by decide)
  · intro i j b hi hj hij
    have hi2 : i < s.tk.length + 1 := by have : i < (s.tk ++ [x]).length := hi; simpa using this
    have hj2 : j < s.tk.length + 1 := by have : j < (s.tk ++ [x]).length := hj; simpa using this
    by_cases ei : i = s.tk.length
    · subst ei
      rw [upd_eq, upd_ne (Ne.symm hij)]
      intro e1 e2
      have := hm b e1
      have := own_lt (h.tk.rows j (by omega)) e2
      omega
    · rw [upd_ne ei]
      by_cases ej : j = s.tk.length
      · subst ej
        rw [upd_eq]
        intro e1 e2
        have := hm b e2
        have := own_lt (h.tk.rows i (by omega)) e1
        omega
      · rw [upd_ne ej]
        exact h.tk.apart i j b (by omega) (by omega) hij
theorem PM.spawned (h : PM w base pb st X K H R s) : PM (w.setCell ⟨pb, 8, none⟩ (.int .i64 ((s.spn + 1 : Nat) : Int))) base pb st X K H R { s with spn := s.spn + 1 } :=
  PM.put (c := X.cells st s) h.blk h.low (by simp [PX.cells]) h.vw h.tk h.ar h.mg
/-- The last task is gone. -/
theorem PM.endTask (h : PM w base pb st X K H R s) {tk : List (Nat × List Nat)} {x : Nat × List Nat} (hx : s.tk = tk ++ [x]) : PM (w.setCell ⟨pb, 7, none⟩ (.slice X.ta tk.length X.tc)) base pb st X K H R { s with tk := tk } := by
  have hrow : ∀ i, i < tk.length → rowOf s.tk i = rowOf tk i := fun i hi => by rw [hx, rowOf_more tk x i (by simp; omega), if_neg (by omega)]
  have hlen : s.tk.length = tk.length + 1 := by rw [hx]; simp
  refine PM.put (c := X.cells st s) h.blk h.low (by simp [PX.cells]) h.vw ⟨?_, fun i hi => ?_, fun i j b hi hj => h.tk.apart i j b (by have : i < tk.length := hi; omega) (by have : j < tk.length := hj; omega)⟩ h.ar h.mg
  · have ho := h.tk.tks
    have hvals : (List.range (tk.length * 2)).map (tkF tk H) = ((List.range (s.tk.length * 2)).map (tkF s.tk H)).take (tk.length * 2) := by
      rw [← List.map_take, List.take_range, show min (tk.length * 2) (s.tk.length * 2) = tk.length * 2 by omega]
      refine tk_cong (fun i hi => ?_) (fun _ _ => rfl)
      rw [hx, List.getD_eq_getElem?_getD, List.getD_eq_getElem?_getD, List.getElem?_append_left hi]
    show w.ownsRow base 84 2 (.slice X.ta tk.length X.tc) tk.length ((List.range (tk.length * 2)).map (tkF tk H))
    refine ⟨by simp, ?_⟩
    rcases ho.2 with ⟨e, h0⟩ | ⟨g, cap, cur, e, hb, hg, hn, hm, hcs, ht⟩
    · omega
    · injection e with e1 e2 e3
      refine .inr ⟨g, cap, cur, by rw [e1, e3], hb, hg, by omega, hm, hcs, ?_⟩
      rw [hvals, ← ht, List.take_take]
      congr 1
      omega
  · have hi2 : i < tk.length := hi
    have := h.tk.rows i (by omega)
    rwa [hrow i hi2] at this
/-- The current task's row becomes another one: in its memory. -/
theorem PM.putRow (h : PM w base pb st X K H R s) {tk : List (Nat × List Nat)} {sp : Nat} {r r' : List Nat} {V : Value} (hx : s.tk = tk ++ [(sp, r)]) (ho : w1.ownsRow base 3 1 V r'.length (nv r')) (hk : Keeps (fun k => (R tk.length).ownBlock = some k) w w1) (hm : ∀ b, V.ownBlock = some b → (R tk.length).ownBlock = some b ∨ w.heap.size ≤ b) :
    PM w1 base pb st X K H (upd R tk.length V) { s with tk := tk ++ [(sp, r')] } := by
  have hlen : s.tk.length = tk.length + 1 := by rw [hx]; simp
  have hr := h.tk.rows tk.length (by omega)
  have hT := onlyT_own hr
  refine ⟨?_, h.low, h.vw.other hk hT (by decide) (by decide), ⟨?_, fun i hi => ?_, ?_⟩, h.ar.other hk (fun i e => row_low hr e), row_other h.mg hk hT (by decide)⟩
  · have := blk_other h.blk hk hT (by decide)
    rw [this]
    simp [PX.cells, hx]
  · have ho2 := row_other h.tk.tks hk hT (by decide)
    show w1.ownsRow base 84 2 (.slice X.ta (tk ++ [(sp, r')]).length X.tc) (tk ++ [(sp, r')]).length ((List.range ((tk ++ [(sp, r')]).length * 2)).map (tkF (tk ++ [(sp, r')]) H))
    have e1 : (tk ++ [(sp, r')]).length = s.tk.length := by rw [hx]; simp
    rw [e1]
    rwa [tk_cong (tk' := s.tk) (H' := H) (fun i hi => ?_) (fun _ _ => rfl)]
    rw [hx, List.getD_eq_getElem?_getD, List.getD_eq_getElem?_getD]
    by_cases e : i < tk.length
    · rw [List.getElem?_append_left e, List.getElem?_append_left e]
    · rw [List.getElem?_append_right (by omega), List.getElem?_append_right (by omega), show i - tk.length = 0 by omega]
      rfl
  · have hi2 : i < tk.length + 1 := by have : i < (tk ++ [(sp, r')]).length := hi; simpa using this
    show w1.ownsRow base 3 1 (upd R tk.length V i) (rowOf (tk ++ [(sp, r')]) i).length (nv (rowOf (tk ++ [(sp, r')]) i))
    rw [rowOf_more tk (sp, r') i hi]
    by_cases e : i = tk.length
    · subst e
      rw [upd_eq, if_pos rfl]
      exact ho
    · rw [upd_ne e, if_neg e]
      have := h.tk.rows i (by omega)
      rw [hx, rowOf_more tk (sp, r) i (by simp; omega), if_neg e] at this
      exact row_kept this hk (fun b e1 e2 => h.tk.apart i tk.length b (by omega) (by omega) e e1 e2)
  · intro i j b hi hj hij
    have hi2 : i < tk.length + 1 := by have : i < (tk ++ [(sp, r')]).length := hi; simpa using this
    have hj2 : j < tk.length + 1 := by have : j < (tk ++ [(sp, r')]).length := hj; simpa using this
    by_cases ei : i = tk.length
    · subst ei
      rw [upd_eq, upd_ne (Ne.symm hij)]
      intro e1 e2
      rcases hm b e1 with h3 | h3
      · exact h.tk.apart _ j b (by omega) (by omega) hij h3 e2
      · have := own_lt (h.tk.rows j (by omega)) e2
        omega
    · rw [upd_ne ei]
      by_cases ej : j = tk.length
      · subst ej
        rw [upd_eq]
        intro e1 e2
        rcases hm b e2 with h3 | h3
        · exact h.tk.apart i _ b (by omega) (by omega) hij e1 h3
        · have := own_lt (h.tk.rows i (by omega)) e1
          omega
      · rw [upd_ne ej]
        exact h.tk.apart i j b (by omega) (by omega) hij
/-- What the tasks say of the current one's row is set. -/
theorem PM.setHead (h : PM w base pb st X K H R s) {tb i : Nat} {V : Value} (hta : X.ta = some ⟨tb, 0, none⟩) : PM (w.setCell ⟨tb, i * 2 + 1, none⟩ V) base pb st X K (upd H i V) R s := by
  obtain ⟨cur, hcur⟩ := own_block h.tk.tks (g := tb) (by rw [hta]; rfl)
  have hk : Keeps (· = tb) w (w.setCell ⟨tb, i * 2 + 1, none⟩ V) := keeps_one (Keeps.refl _ _) _
  have hT : OnlyT (· = tb) w 84 := onlyT_one hcur
  have hlo : base ≤ tb := row_low h.tk.tks (by rw [hta]; rfl)
  refine ⟨blk_other h.blk hk hT (by decide), h.low, h.vw.other hk hT (by decide) (by decide), ⟨?_, fun i hi => row_other (h.tk.rows i hi) hk hT (by decide), h.tk.apart⟩, h.ar.other hk (fun i e => by omega), row_other h.mg hk hT (by decide)⟩
  have ho := h.tk.tks
  rw [← tk_setH]
  rw [hta] at ho ⊢
  exact row_set ho _ V
end
end Go.Proofs.Ytdiabpoafennlaa
/-! Plain facts on 64-bit numbers and on the sixteen operations: no program in sight. -/
namespace Go.PlainOps
open Go.RowKit

abbrev bv (x : Int) : BitVec 64 := BitVec.ofInt 64 x
theorem toInt_bv {x : Int} (h0 : -9223372036854775808 ≤ x) (h1 : x ≤ 9223372036854775807) : (bv x).toInt = x := by
  apply BitVec.toInt_ofInt_eq_self (by decide) <;> omega
theorem bv_bounds (v : BitVec 64) : -9223372036854775808 ≤ v.toInt ∧ v.toInt ≤ 9223372036854775807 := by
  have h1 := BitVec.le_toInt v
  have h2 := BitVec.toInt_lt (x := v)
  constructor <;> omega
theorem wrap64_bv (x : Int) : wrap64 x = (bv x).toInt := by
  unfold bv
  rw [BitVec.toInt_ofInt]; unfold wrap64; simp [Int.bmod]; omega
theorem wrap_i64 (x : Int) : IntKind.i64.wrap x = (bv x).toInt := by
  rw [← wrap64_bv]; simp [IntKind.wrap, IntKind.bits, IntKind.signed, wrap64]; omega
theorem bv_toNat (v : BitVec 64) : bv (v.toNat : Int) = v := by
  apply BitVec.eq_of_toNat_eq; simp [bv]
theorem bits_and (a b : Int) : bits .and .i64 a b = (bv a &&& bv b).toInt := by
  show IntKind.i64.wrap ((bv a &&& bv b).toNat : Int) = _
  rw [wrap_i64, bv_toNat]
theorem bits_or (a b : Int) : bits .or .i64 a b = (bv a ||| bv b).toInt := by
  show IntKind.i64.wrap ((bv a ||| bv b).toNat : Int) = _
  rw [wrap_i64, bv_toNat]
theorem bits_xor (a b : Int) : bits .xor .i64 a b = (bv a ^^^ bv b).toInt := by
  show IntKind.i64.wrap ((bv a ^^^ bv b).toNat : Int) = _
  rw [wrap_i64, bv_toNat]
theorem bv_toInt (v : BitVec 64) : bv v.toInt = v := BitVec.ofInt_toInt
theorem bv_add (a b : Int) : bv (a + b) = bv a + bv b := BitVec.ofInt_add a b
theorem bv_mul (a b : Int) : bv (a * b) = bv a * bv b := BitVec.ofInt_mul a b
theorem bv_sub (a b : Int) : bv (a - b) = bv a - bv b := by
  rw [Int.sub_eq_add_neg, bv_add]; simp [bv, BitVec.ofInt_neg, BitVec.sub_eq_add_neg]
theorem split_and (a b : BitVec 64) : (a &&& ~~~b) + (a &&& b) = a := by
  rw [BitVec.add_eq_or_of_and_eq_zero]
  · ext i; simp; cases a[i] <;> cases b[i] <;> rfl
  · ext i; simp; cases a[i] <;> cases b[i] <;> simp
theorem and_add_or (a b : BitVec 64) : (a &&& b) + (a ||| b) = a + b := by
  have h1 : (a &&& ~~~b) + b = a ||| b := by
    rw [BitVec.add_eq_or_of_and_eq_zero]
    · ext i; simp; cases a[i] <;> cases b[i] <;> rfl
    · ext i; simp
  rw [← h1]
  conv => rhs; rw [← split_and a b]
  rw [← BitVec.add_assoc, BitVec.add_comm (a &&& b)]
theorem or_sub_and (a b : BitVec 64) : (a ||| b) - (a &&& b) = a ^^^ b := by
  have h1 : (a ^^^ b) + (a &&& b) = a ||| b := by
    rw [BitVec.add_eq_or_of_and_eq_zero]
    · ext i; simp; cases a[i] <;> cases b[i] <;> rfl
    · ext i; simp; cases a[i] <;> cases b[i] <;> simp
  rw [← h1, BitVec.add_sub_cancel]
/-- The low six bits are the remainder modulo 64. -/
theorem and63 (x : Int) : bits .and .i64 x 63 = x % 64 := by
  rw [bits_and]
  have e : ((bv x) &&& (bv 63)).toNat = (bv x).toNat % 64 := by
    rw [BitVec.toNat_and]
    exact Nat.and_two_pow_sub_one_eq_mod _ 6
  have hx : ((bv x).toNat : Int) = x % 18446744073709551616 := by
    simp [bv]; omega
  rw [BitVec.toInt_eq_toNat_of_lt (by omega), e]
  omega

/-! The value of an operation. -/
def quotV (a b : Int) : Int := if b = 0 then 0 else wrap64 (a.tdiv b)
def remV (a b : Int) : Int := if b = 0 then a else a.tmod b
def shlV (a b : Int) : Int := wrap64 (a * 2 ^ (b % 64).toNat)
def shrV (a b : Int) : Int := a / 2 ^ (b % 64).toNat
def minV (a b : Int) : Int := if b < a then b else a
def maxV (a b : Int) : Int := if a < b then b else a
def truthV (b : Bool) : Int := if b then 1 else 0
def workV (op a b : Int) : Int :=
  if op = 0 then wrap64 (a + b)
  else if op = 1 then wrap64 (a - b)
  else if op = 2 then wrap64 (a * b)
  else if op = 3 then quotV a b
  else if op = 4 then remV a b
  else if op = 5 then bits .and .i64 a b
  else if op = 6 then bits .or .i64 a b
  else if op = 7 then bits .xor .i64 a b
  else if op = 8 then shlV a b
  else if op = 9 then shrV a b
  else if op = 10 then minV a b
  else if op = 11 then maxV a b
  else if op = 12 then truthV (decide (a < b))
  else if op = 13 then truthV (decide (a ≤ b))
  else if op = 14 then truthV (a == b)
  else truthV (a != b)
def isOpV (op : Int) : Bool := decide (0 ≤ op ∧ op < 16)
/-- Has the number a unit? -/
def hasU (op : Int) : Bool := op == 0 || op == 2 || op == 5 || op == 6 || op == 7 || op == 10 || op == 11
def unitV (op : Int) : Int :=
  if op = 2 then 1 else if op = 5 then -1 else if op = 10 then 9223372036854775807 else if op = 11 then -9223372036854775808 else 0
def modV (x n : Int) : Int := if n < 1 then 0 else x % n
theorem modV_bounds (x n : Int) (hn : 1 ≤ n) : 0 ≤ modV x n ∧ modV x n < n := by
  unfold modV; rw [if_neg (by omega)]
  exact ⟨Int.emod_nonneg _ (by omega), Int.emod_lt_of_pos _ (by omega)⟩
theorem tmod_mod (x n : Int) (hn : 1 ≤ n) : (if x.tmod n < 0 then x.tmod n + n else x.tmod n) = x % n := by
  rw [Int.tmod_eq_emod]
  have h0 := Int.emod_nonneg x (b := n) (by omega)
  have h1 := Int.emod_lt_of_pos x (b := n) (by omega)
  have e : (n.natAbs : Int) = n := by omega
  split <;> split <;> rename_i h2
  · rename_i h3; omega
  · omega
  · omega
  · omega
theorem tmod_bounds (x n : Int) (hn : 1 ≤ n) : -n < x.tmod n ∧ x.tmod n < n := by
  rw [Int.tmod_eq_emod]
  have h0 := Int.emod_nonneg x (b := n) (by omega)
  have h1 := Int.emod_lt_of_pos x (b := n) (by omega)
  split <;> omega
end Go.PlainOps
/-! The plain laws of the operations that have a unit. -/
namespace Go.PlainOps
open Go.RowKit

def sevenV (i : Int) : Int :=
  if i = 0 then 0 else if i = 1 then 2 else if i = 2 then 5 else if i = 3 then 6 else if i = 4 then 7 else if i = 5 then 10 else 11
theorem sevenV_cases (i : Int) : sevenV i = 0 ∨ sevenV i = 2 ∨ sevenV i = 5 ∨ sevenV i = 6 ∨ sevenV i = 7 ∨ sevenV i = 10 ∨ sevenV i = 11 := by
  unfold sevenV; repeat' split
  all_goals simp
theorem hasU_cases {op : Int} (h : hasU op = true) : op = 0 ∨ op = 2 ∨ op = 5 ∨ op = 6 ∨ op = 7 ∨ op = 10 ∨ op = 11 := by
  simp only [hasU, Bool.or_eq_true, beq_iff_eq] at h
  omega
theorem hasU_seven (i : Int) : hasU (sevenV i) = true := by
  rcases sevenV_cases i with h | h | h | h | h | h | h <;> rw [h] <;> rfl
theorem isOp_hasU {op : Int} (h : hasU op = true) : isOpV op = true := by
  rcases hasU_cases h with h | h | h | h | h | h | h <;> rw [h] <;> rfl

theorem workV_fits (op a b : Int) (h : hasU op = true) (ha : -9223372036854775808 ≤ a ∧ a ≤ 9223372036854775807) (hb : -9223372036854775808 ≤ b ∧ b ≤ 9223372036854775807) :
    -9223372036854775808 ≤ workV op a b ∧ workV op a b ≤ 9223372036854775807 := by
  rcases hasU_cases h with rfl | rfl | rfl | rfl | rfl | rfl | rfl
  · show _ ≤ wrap64 (a + b) ∧ wrap64 (a + b) ≤ _; unfold wrap64; omega
  · show _ ≤ wrap64 (a * b) ∧ wrap64 (a * b) ≤ _; unfold wrap64; omega
  · show _ ≤ bits .and .i64 a b ∧ bits .and .i64 a b ≤ _; rw [bits_and]; exact bv_bounds _
  · show _ ≤ bits .or .i64 a b ∧ bits .or .i64 a b ≤ _; rw [bits_or]; exact bv_bounds _
  · show _ ≤ bits .xor .i64 a b ∧ bits .xor .i64 a b ≤ _; rw [bits_xor]; exact bv_bounds _
  · show _ ≤ minV a b ∧ minV a b ≤ _; unfold minV; split <;> omega
  · show _ ≤ maxV a b ∧ maxV a b ≤ _; unfold maxV; split <;> omega
theorem workV_comm (op a b : Int) (h : hasU op = true) : workV op a b = workV op b a := by
  rcases hasU_cases h with rfl | rfl | rfl | rfl | rfl | rfl | rfl
  · show wrap64 (a + b) = wrap64 (b + a); rw [Int.add_comm]
  · show wrap64 (a * b) = wrap64 (b * a); rw [Int.mul_comm]
  · show bits .and .i64 a b = bits .and .i64 b a; rw [bits_and, bits_and, BitVec.and_comm]
  · show bits .or .i64 a b = bits .or .i64 b a; rw [bits_or, bits_or, BitVec.or_comm]
  · show bits .xor .i64 a b = bits .xor .i64 b a; rw [bits_xor, bits_xor, BitVec.xor_comm]
  · show minV a b = minV b a; unfold minV; split <;> split <;> omega
  · show maxV a b = maxV b a; unfold maxV; split <;> split <;> omega
theorem workV_assoc (op a b c : Int) (h : hasU op = true) : workV op (workV op a b) c = workV op a (workV op b c) := by
  rcases hasU_cases h with rfl | rfl | rfl | rfl | rfl | rfl | rfl
  · show wrap64 (wrap64 (a + b) + c) = wrap64 (a + wrap64 (b + c)); unfold wrap64; omega
  · show wrap64 (wrap64 (a * b) * c) = wrap64 (a * wrap64 (b * c))
    simp only [wrap64_bv, bv_mul, bv_toInt, BitVec.mul_assoc]
  · show bits .and .i64 (bits .and .i64 a b) c = bits .and .i64 a (bits .and .i64 b c)
    simp only [bits_and, bv_toInt, BitVec.and_assoc]
  · show bits .or .i64 (bits .or .i64 a b) c = bits .or .i64 a (bits .or .i64 b c)
    simp only [bits_or, bv_toInt, BitVec.or_assoc]
  · show bits .xor .i64 (bits .xor .i64 a b) c = bits .xor .i64 a (bits .xor .i64 b c)
    simp only [bits_xor, bv_toInt, BitVec.xor_assoc]
  · show minV (minV a b) c = minV a (minV b c)
    unfold minV; repeat' split
    all_goals omega
  · show maxV (maxV a b) c = maxV a (maxV b c)
    unfold maxV; repeat' split
    all_goals omega
theorem workV_unit (op a : Int) (h : hasU op = true) (h0 : -9223372036854775808 ≤ a) (h1 : a ≤ 9223372036854775807) : workV op (unitV op) a = a := by
  rcases hasU_cases h with rfl | rfl | rfl | rfl | rfl | rfl | rfl
  · show wrap64 (0 + a) = a; unfold wrap64; omega
  · show wrap64 (1 * a) = a; unfold wrap64; omega
  · show bits .and .i64 (-1) a = a
    rw [bits_and]
    have e : bv (-1) = BitVec.allOnes 64 := by decide
    rw [e, BitVec.allOnes_and, toInt_bv h0 h1]
  · show bits .or .i64 0 a = a
    rw [bits_or]
    have e : bv 0 = 0#64 := by decide
    rw [e, BitVec.zero_or, toInt_bv h0 h1]
  · show bits .xor .i64 0 a = a
    rw [bits_xor]
    have e : bv 0 = 0#64 := by decide
    rw [e, BitVec.zero_xor, toInt_bv h0 h1]
  · show minV 9223372036854775807 a = a; unfold minV; split <;> omega
  · show maxV (-9223372036854775808) a = a; unfold maxV; split <;> omega
theorem workV_unit' (op a : Int) (h : hasU op = true) (h0 : -9223372036854775808 ≤ a) (h1 : a ≤ 9223372036854775807) : workV op a (unitV op) = a := by
  rw [workV_comm op _ _ h]; exact workV_unit op a h h0 h1
theorem unitV_fits (op : Int) : -9223372036854775808 ≤ unitV op ∧ unitV op ≤ 9223372036854775807 := by
  unfold unitV; repeat' split
  all_goals omega
end Go.PlainOps
/-! Folds, as plain functions. -/
namespace Go.PlainOps
open Go.RowKit

/-- The error of a fold of n elements, or 0. -/
def foldErr (op n : Int) : Int := if isOpV op = false then 10 else if hasU op = false then 11 else if 65536 < n then 2 else 0
def foldK (op : Int) (zs : List Int) (k : Nat) : Int := (zs.take k).foldl (workV op) (unitV op)
def foldV (op : Int) (zs : List Int) : Int := zs.foldl (workV op) (unitV op)
theorem foldK_zero (op : Int) (zs : List Int) : foldK op zs 0 = unitV op := by simp [foldK]
theorem foldK_succ (op : Int) (zs : List Int) (k : Nat) (hk : k < zs.length) : workV op (foldK op zs k) (zs.getD k 0) = foldK op zs (k + 1) := by
  unfold foldK
  rw [List.take_succ_eq_append_getElem hk, List.foldl_append]
  simp [List.getD, List.getElem?_eq_getElem hk]
theorem foldK_end (op : Int) (zs : List Int) (k : Nat) (hk : zs.length ≤ k) : foldK op zs k = foldV op zs := by
  unfold foldK foldV; rw [List.take_of_length_le hk]
/-- The fold by halves, with fuel. -/
def treeN (op : Int) : Nat → List Int → Int
  | 0, _ => 0
  | _, [x] => x
  | f + 1, zs => workV op (treeN op f (zs.take (zs.length / 2))) (treeN op f (zs.drop (zs.length / 2)))
def treeV (op : Int) (zs : List Int) : Int := treeN op zs.length zs
theorem treeN_one (op x : Int) (f : Nat) : treeN op (f + 1) [x] = x := by simp [treeN]
theorem treeN_more (op : Int) (f : Nat) (zs : List Int) (h : 2 ≤ zs.length) : treeN op (f + 1) zs = workV op (treeN op f (zs.take (zs.length / 2))) (treeN op f (zs.drop (zs.length / 2))) := by
  match zs, h with
  | _ :: _ :: _, _ => rw [treeN]; simp
theorem treeN_fuel (op : Int) : ∀ (n : Nat) (zs : List Int), zs.length = n → 1 ≤ n → ∀ f, n ≤ f → treeN op f zs = treeN op n zs := by
  intro n
  induction n using Nat.strongRecOn with
  | ind n ih =>
    intro zs hz h1 f hf
    match n, f, h1, hf with
    | n + 1, f + 1, _, hf =>
      by_cases h2 : zs.length = 1
      · match zs, h2 with
        | [x], _ => rw [treeN_one, treeN_one]
      · rw [treeN_more op f zs (by omega), treeN_more op n zs (by omega)]
        have l1 : (zs.take (zs.length / 2)).length = zs.length / 2 := by rw [List.length_take]; omega
        have l2 : (zs.drop (zs.length / 2)).length = zs.length - zs.length / 2 := by rw [List.length_drop]
        rw [ih _ (by omega) _ l1 (by omega) f (by omega), ih _ (by omega) _ l1 (by omega) n (by omega), ih _ (by omega) _ l2 (by omega) f (by omega), ih _ (by omega) _ l2 (by omega) n (by omega)]
theorem treeV_one (op x : Int) : treeV op [x] = x := by unfold treeV; exact treeN_one op x 0
theorem treeV_more (op : Int) (zs : List Int) (h : 2 ≤ zs.length) : treeV op zs = workV op (treeV op (zs.take (zs.length / 2))) (treeV op (zs.drop (zs.length / 2))) := by
  unfold treeV
  obtain ⟨n, hn⟩ : ∃ n, zs.length = n + 1 := ⟨zs.length - 1, by omega⟩
  have l1 : (zs.take (zs.length / 2)).length = zs.length / 2 := by rw [List.length_take]; omega
  have l2 : (zs.drop (zs.length / 2)).length = zs.length - zs.length / 2 := by rw [List.length_drop]
  conv => lhs; rw [hn]
  rw [treeN_more op n zs h]
  rw [treeN_fuel op _ _ l1 (by omega) n (by omega), treeN_fuel op _ _ l2 (by omega) n (by omega)]
  rw [l1, l2]

/-! Where the operation has a unit, a list may be cut anywhere. -/
def Fits (zs : List Int) : Prop := ∀ x ∈ zs, -9223372036854775808 ≤ x ∧ x ≤ 9223372036854775807
theorem foldl_fits (op : Int) (h : hasU op = true) : ∀ (zs : List Int) (u : Int), Fits zs → (-9223372036854775808 ≤ u ∧ u ≤ 9223372036854775807) → -9223372036854775808 ≤ zs.foldl (workV op) u ∧ zs.foldl (workV op) u ≤ 9223372036854775807
  | [], _, _, hu => hu
  | x :: r, u, hz, hu => foldl_fits op h r _ (fun y hy => hz y (List.mem_cons_of_mem _ hy)) (workV_fits op u x h hu (hz x (List.mem_cons_self ..)))
theorem foldV_fits (op : Int) (h : hasU op = true) (zs : List Int) (hz : Fits zs) : -9223372036854775808 ≤ foldV op zs ∧ foldV op zs ≤ 9223372036854775807 := foldl_fits op h zs _ hz (unitV_fits op)
theorem foldl_out (op : Int) (h : hasU op = true) : ∀ (zs : List Int) (u : Int), Fits zs → (-9223372036854775808 ≤ u ∧ u ≤ 9223372036854775807) → zs.foldl (workV op) u = workV op u (foldV op zs)
  | [], u, _, hu => by rw [List.foldl_nil]; exact (workV_unit' op u h hu.1 hu.2).symm
  | x :: r, u, hz, hu => by
    have hx := hz x (List.mem_cons_self ..)
    have hr : Fits r := fun y hy => hz y (List.mem_cons_of_mem _ hy)
    rw [List.foldl_cons, foldl_out op h r _ hr (workV_fits op u x h hu hx), workV_assoc op u x _ h]
    congr 1
    unfold foldV
    rw [List.foldl_cons, workV_unit op x h hx.1 hx.2]
    exact (foldl_out op h r x hr hx).symm
theorem foldV_append (op : Int) (h : hasU op = true) (xs ys : List Int) (hx : Fits xs) (hy : Fits ys) : foldV op (xs ++ ys) = workV op (foldV op xs) (foldV op ys) := by
  have e : foldV op (xs ++ ys) = ys.foldl (workV op) (foldV op xs) := by unfold foldV; rw [List.foldl_append]
  rw [e]
  exact foldl_out op h ys _ hy (foldV_fits op h xs hx)
theorem Fits.take {zs : List Int} (h : Fits zs) (k : Nat) : Fits (zs.take k) := fun x hx => h x (List.mem_of_mem_take hx)
theorem Fits.drop {zs : List Int} (h : Fits zs) (k : Nat) : Fits (zs.drop k) := fun x hx => h x (List.mem_of_mem_drop hx)
theorem foldV_cut (op : Int) (h : hasU op = true) (zs : List Int) (hz : Fits zs) (k : Nat) : workV op (foldV op (zs.take k)) (foldV op (zs.drop k)) = foldV op zs := by
  rw [← foldV_append op h _ _ (hz.take k) (hz.drop k), List.take_append_drop]
theorem treeV_foldV (op : Int) (h : hasU op = true) : ∀ (n : Nat) (zs : List Int), zs.length = n → 1 ≤ n → Fits zs → treeV op zs = foldV op zs := by
  intro n
  induction n using Nat.strongRecOn with
  | ind n ih =>
    intro zs hz h1 hf
    by_cases h2 : zs.length = 1
    · match zs, h2 with
      | [x], _ =>
        have hx := hf x (List.mem_cons_self ..)
        rw [treeV_one]; unfold foldV
        rw [List.foldl_cons, List.foldl_nil, workV_unit op x h hx.1 hx.2]
    · have l1 : (zs.take (zs.length / 2)).length = zs.length / 2 := by rw [List.length_take]; omega
      have l2 : (zs.drop (zs.length / 2)).length = zs.length - zs.length / 2 := by rw [List.length_drop]
      rw [treeV_more op zs (by omega), ih _ (by omega) _ l1 (by omega) (hf.take _), ih _ (by omega) _ l2 (by omega) (hf.drop _)]
      exact foldV_cut op h zs hf _
end Go.PlainOps
/-! The contract of ops.Mod. -/
namespace Go.Proofs.Ytdiabpoafennlaa
open Go.RowKit Go.PlainOps

set_option maxHeartbeats 400000 in
theorem mod_any (x n : Int) (w : World) (hn : n ≤ 9223372036854775807) : Calls Try.prog 58 #[.int .i64 x, .int .i64 n] w fun e w' => e = .returned (.int .i64 (modV x n)) ∧ w' = w := by
  by_cases h : n < 1
  · go_enter Try.func58, Try.ntmps58
    go_wp2
    go_ret
    exact ⟨by simp [modV, h], rfl⟩
  · have h1 := tmod_mod x n (by omega)
    obtain ⟨b0, b1⟩ := tmod_bounds x n (by omega)
    have e : modV x n = (if x.tmod n < 0 then x.tmod n + n else x.tmod n) := by rw [h1]; simp [modV, h]
    have E : Hid (modV x n = (if x.tmod n < 0 then x.tmod n + n else x.tmod n)) := e
    clear e h1
    by_cases hr : x.tmod n < 0
    · go_enter Try.func58, Try.ntmps58
      go_wp2
      go_ret
      exact ⟨by rw [E.out, if_pos hr]; rfl, rfl⟩
    · go_enter Try.func58, Try.ntmps58
      go_wp2
      go_ret
      exact ⟨by rw [E.out, if_neg (by omega)]; rfl, rfl⟩
end Go.Proofs.Ytdiabpoafennlaa
/-! A reducer's player of numbers in memory: each view holds the fold of what a list's view would hold. -/
namespace Go.Proofs.Ytdiabpoafennlaa.Nm
set_option linter.unusedVariables false
set_option maxRecDepth 20000
set_option linter.unusedSimpArgs false
open Go.RowKit Go.HeapKit Go.PlainOps

/-- The operation, and the boxes that hold it and its unit. -/
structure NP where
  op : Int
  pa : Nat
  pu : Nat
def fV (K : NP) (l : List Int) : Int := foldV K.op l
def fvs (K : NP) (vs : List (List Int)) : List Value := iv (vs.map (fV K))
theorem fvs_len (K : NP) (vs : List (List Int)) : (fvs K vs).length = vs.length := by simp [fvs, iv_len]
theorem fvs_snoc (K : NP) (vs : List (List Int)) (l : List Int) : fvs K (vs ++ [l]) = fvs K vs ++ [.int .i64 (fV K l)] := by simp [fvs, iv]
theorem fvs_set (K : NP) (vs : List (List Int)) (v : Nat) (l : List Int) : fvs K (vs.set v l) = (fvs K vs).set v (.int .i64 (fV K l)) := by simp [fvs, iv, List.map_set]
theorem fvs_at {K : NP} {vs : List (List Int)} {v : Nat} {l : List Int} (h : vs[v]? = some l) : (fvs K vs)[v]? = some (.int .i64 (fV K l)) := by simp [fvs, iv, h]
def putV (K : NP) : Value := .func (.func 46) #[] #[.pointer (some ⟨K.pa, 0, none⟩)]
def newV (K : NP) : Value := .func (.func 48) #[] #[.pointer (some ⟨K.pu, 0, none⟩)]
def tellV : Value := .func (.func 49) #[] #[]
def cells (X : PX) (st : List Bool) (K : NP) (s : PS) : Array Value := #[newV K, putV K, putV K, tellV,
  .slice X.sa st.length X.sc, .slice X.pa s.pk.length X.pc, .slice X.va s.vs.length X.vc, .slice X.ta s.tk.length X.tc, .int .i64 s.spn, .slice X.ma s.mg.length X.mc, .slice X.la s.lk.length X.lc]
structure Vw (w : World) (base : Nat) (va : Option Addr) (vc : Nat) (la : Option Addr) (lc : Nat) (K : NP) (vs lk : List (List Int)) : Prop where
  views : w.ownsRow base 2 1 (.slice va vs.length vc) vs.length (fvs K vs)
  looks : w.ownsRow base 2 1 (.slice la lk.length lc) lk.length (fvs K lk)
  vl : ∀ b n c m d, (Value.slice va n c).ownBlock = some b → (Value.slice la m d).ownBlock ≠ some b
structure Ar (w : World) (base : Nat) (sa pa : Option Addr) (pc : Nat) (st : List Bool) (pk : List Int) (K : NP) : Prop extends Args w base sa pa pc st pk where
  b1 : w.cell? ⟨K.pa, 0, none⟩ = some (.int .i64 K.op)
  b2 : w.cell? ⟨K.pu, 0, none⟩ = some (.int .i64 (unitV K.op))
  l1 : K.pa < base
  l2 : K.pu < base
structure PM (w : World) (base pb : Nat) (st : List Bool) (X : PX) (K : NP) (H R : Nat → Value) (s : PS) : Prop where
  blk : w.heap[pb]? = some (.cells (cells X st K s) 76 (0, 0))
  low : base ≤ pb
  vw : Vw w base X.va X.vc X.la X.lc K s.vs s.lk
  tk : Tks w base X.ta X.tc H R s.tk
  ar : Ar w base X.sa X.pa X.pc st s.pk K
  mg : w.ownsRow base 43 3 (.slice X.ma s.mg.length X.mc) s.mg.length (mgV s.mg)
section
variable {w w' : World} {base pb : Nat} {st : List Bool} {X : PX} {K : NP} {H R : Nat → Value} {s : PS} {S : Nat → Prop} {t : TypeId}
theorem Vw.other {va la : Option Addr} {vc lc : Nat} {vs lk : List (List Int)} (h : Vw w base va vc la lc K vs lk) (hk : Keeps S w w') (hS : OnlyT S w t) (h1 : t ≠ 2) : Vw w' base va vc la lc K vs lk :=
  ⟨row_other h.views hk hS h1, row_other h.looks hk hS h1, h.vl⟩
theorem Ar.other {sa pa : Option Addr} {pc : Nat} {pk : List Int} (h : Ar w base sa pa pc st pk K) (hk : Keeps S w w') (hS : ∀ i, S i → base ≤ i) : Ar w' base sa pa pc st pk K :=
  ⟨h.toArgs.other hk hS, hk.cell h.b1 (fun e => by have := hS _ e; have := h.l1; simp only at *; omega), hk.cell h.b2 (fun e => by have := hS _ e; have := h.l2; simp only at *; omega), h.l1, h.l2⟩
theorem PM.more (h : PM w base pb st X K H R s) (hk : Keeps None w w') : PM w' base pb st X K H R s :=
  ⟨blk_kept h.blk hk (fun f => f), h.low, h.vw.other (t := 0) hk (fun _ f => f.elim) (by decide), h.tk.other (t := 0) hk (fun _ f => f.elim) (by decide) (by decide), h.ar.other hk (fun _ f => f.elim), row_kept h.mg hk (fun _ _ f => f)⟩
theorem PM.cell (h : PM w base pb st X K H R s) (i : Nat) : w.cell? ⟨pb, i, none⟩ = (cells X st K s)[i]? := blk_cell h.blk i
theorem PM.free (h : PM w base pb st X K H R s) (i : Nat) : w.frozen? ⟨pb, i, none⟩ = false := blk_free h.blk i
/-- One of the player's cells is stored: what stands besides. -/
theorem PM.put {c : Array Value} (hb : w.heap[pb]? = some (.cells c 76 (0, 0))) (hl : base ≤ pb) {i : Nat} {v : Value} (hc : c.setIfInBounds i v = cells X st K s) (h1 : Vw w base X.va X.vc X.la X.lc K s.vs s.lk) (h2 : Tks w base X.ta X.tc H R s.tk) (h3 : Ar w base X.sa X.pa X.pc st s.pk K)
    (h4 : w.ownsRow base 43 3 (.slice X.ma s.mg.length X.mc) s.mg.length (mgV s.mg)) : PM (w.setCell ⟨pb, i, none⟩ v) base pb st X K H R s := by
  have hk : Keeps (· = pb) w (w.setCell ⟨pb, i, none⟩ v) := keeps_one (Keeps.refl _ _) _
  have ho : OnlyT (· = pb) w 76 := onlyT_one hb
  refine ⟨?_, hl, h1.other hk ho (by decide), h2.other hk ho (by decide) (by decide), h3.other hk (fun i e => by omega), row_other h4 hk ho (by decide)⟩
  rw [← hc]
  exact blk_set hb v
end
end Go.Proofs.Ytdiabpoafennlaa.Nm
/-! What becomes of a player of numbers in memory. -/
namespace Go.Proofs.Ytdiabpoafennlaa.Nm
set_option linter.unusedVariables false
set_option maxRecDepth 20000
set_option linter.unusedSimpArgs false
open Go.RowKit Go.HeapKit Go.PlainOps

section
variable {w w1 : World} {base pb : Nat} {st : List Bool} {X : PX} {K : NP} {H R : Nat → Value} {s : PS}
theorem fV_nil (K : NP) : fV K [] = unitV K.op := rfl
/-- A new view. -/
theorem PM.newView (h : PM w base pb st X K H R s) {g cap : Nat} (ho : w1.ownsRow base 2 1 (.slice (some ⟨g, 0, none⟩) (s.vs.length + 1) cap) (s.vs.length + 1) (fvs K s.vs ++ [.int .i64 (unitV K.op)])) (hk : Keeps (fun k => (Value.slice X.va s.vs.length X.vc).ownBlock = some k) w w1)
    (hm : (Value.slice X.va s.vs.length X.vc).ownBlock = some g ∨ w.heap.size ≤ g) :
    PM (w1.setCell ⟨pb, 6, none⟩ (.slice (some ⟨g, 0, none⟩) (s.vs.length + 1) cap)) base pb st { X with va := some ⟨g, 0, none⟩, vc := cap } K H R { s with vs := s.vs ++ [[]] } := by
  have hT := onlyT_own h.vw.views
  refine PM.put (c := cells X st K s) (blk_other h.blk hk hT (by decide)) h.low (by simp [cells]) ?_ (h.tk.other hk hT (by decide) (by decide)) (h.ar.other hk (fun i e => row_low h.vw.views e)) (row_other h.mg hk hT (by decide))
  refine ⟨?_, row_kept h.vw.looks hk (fun b e e2 => h.vw.vl b _ _ _ _ e2 e), ?_⟩
  · show w1.ownsRow base 2 1 (.slice (some ⟨g, 0, none⟩) (s.vs ++ [[]]).length cap) (s.vs ++ [[]]).length _
    rw [List.length_append, List.length_singleton, fvs_snoc]
    exact ho
  · intro b n c m d hb
    simp [Value.ownBlock] at hb
    subst hb
    intro e
    rcases hm with hm | hm
    · exact h.vw.vl g _ _ m d hm e
    · have := own_lt (v := .slice X.la s.lk.length X.lc) h.vw.looks (g := g) (by rw [own_a h.vw.looks e]; rfl)
      omega
/-- A view holds another number. -/
theorem PM.putView (h : PM w base pb st X K H R s) {v vb : Nat} (l : List Int) (hva : X.va = some ⟨vb, 0, none⟩) :
    PM (w.setCell ⟨vb, v, none⟩ (.int .i64 (fV K l))) base pb st X K H R { s with vs := s.vs.set v l } := by
  have hT := onlyT_own h.vw.views
  have hk2 : Keeps (fun k => (Value.slice X.va s.vs.length X.vc).ownBlock = some k) w (w.setCell ⟨vb, v, none⟩ (.int .i64 (fV K l))) := (Keeps.refl _ w).andSet (x := ⟨vb, v, none⟩) (.inl (by rw [hva]; rfl)) _
  refine ⟨?_, h.low, ⟨?_, row_kept h.vw.looks hk2 (fun b e e2 => h.vw.vl b _ _ _ _ e2 e), h.vw.vl⟩, h.tk.other hk2 hT (by decide) (by decide), h.ar.other hk2 (fun i e => row_low h.vw.views e), row_other h.mg hk2 hT (by decide)⟩
  · have := blk_other h.blk hk2 hT (by decide)
    rw [this]
    simp [cells]
  · show (w.setCell ⟨vb, v, none⟩ (.int .i64 (fV K l))).ownsRow base 2 1 (.slice X.va (s.vs.set v l).length X.vc) (s.vs.set v l).length _
    have hv := h.vw.views
    rw [List.length_set, fvs_set]
    rw [hva] at hv ⊢
    exact row_set hv v _
/-- A look is told. -/
theorem PM.newLook (h : PM w base pb st X K H R s) {l : List Int} {g cap : Nat} (ho : w1.ownsRow base 2 1 (.slice (some ⟨g, 0, none⟩) (s.lk.length + 1) cap) (s.lk.length + 1) (fvs K s.lk ++ [.int .i64 (fV K l)])) (hk : Keeps (fun k => (Value.slice X.la s.lk.length X.lc).ownBlock = some k) w w1)
    (hm : (Value.slice X.la s.lk.length X.lc).ownBlock = some g ∨ w.heap.size ≤ g) :
    PM (w1.setCell ⟨pb, 10, none⟩ (.slice (some ⟨g, 0, none⟩) (s.lk.length + 1) cap)) base pb st { X with la := some ⟨g, 0, none⟩, lc := cap } K H R { s with lk := s.lk ++ [l] } := by
  have hT := onlyT_own h.vw.looks
  refine PM.put (c := cells X st K s) (blk_other h.blk hk hT (by decide)) h.low (by simp [cells]) ?_ (h.tk.other hk hT (by decide) (by decide)) (h.ar.other hk (fun i e => row_low h.vw.looks e)) (row_other h.mg hk hT (by decide))
  refine ⟨row_kept h.vw.views hk (fun b e e2 => h.vw.vl b _ _ _ _ e e2), ?_, ?_⟩
  · show w1.ownsRow base 2 1 (.slice (some ⟨g, 0, none⟩) (s.lk ++ [l]).length cap) (s.lk ++ [l]).length _
    rw [List.length_append, List.length_singleton, fvs_snoc]
    exact ho
  · intro b n c m d hb e
    simp [Value.ownBlock] at e
    subst e
    rcases hm with hm | hm
    · exact h.vw.vl g n c _ _ hb hm
    · have := own_lt (v := .slice X.va s.vs.length X.vc) h.vw.views (g := g) (by rw [own_a h.vw.views hb]; rfl)
      omega
/-- A merge is told. -/
theorem PM.newMerge (h : PM w base pb st X K H R s) {x : Nat × Nat × Nat} {g cap : Nat} (ho : w1.ownsRow base 43 3 (.slice (some ⟨g, 0, none⟩) (s.mg.length + 1) cap) (s.mg.length + 1) (mgV (s.mg ++ [x]))) (hk : Keeps (fun k => (Value.slice X.ma s.mg.length X.mc).ownBlock = some k) w w1) :
    PM (w1.setCell ⟨pb, 9, none⟩ (.slice (some ⟨g, 0, none⟩) (s.mg.length + 1) cap)) base pb st { X with ma := some ⟨g, 0, none⟩, mc := cap } K H R { s with mg := s.mg ++ [x] } := by
  have hT := onlyT_own h.mg
  refine PM.put (c := cells X st K s) (blk_other h.blk hk hT (by decide)) h.low (by simp [cells]) (h.vw.other hk hT (by decide)) (h.tk.other hk hT (by decide) (by decide)) (h.ar.other hk (fun i e => row_low h.mg e)) ?_
  show w1.ownsRow base 43 3 (.slice (some ⟨g, 0, none⟩) (s.mg ++ [x]).length cap) (s.mg ++ [x]).length _
  rw [List.length_append, List.length_singleton]
  exact ho
/-- The next pick is taken. -/
theorem PM.nextPick (h : PM w base pb st X K H R s) {x : Int} {pk : List Int} {b off : Nat} (hp : s.pk = x :: pk) (ha : X.pa = some ⟨b, off, none⟩) :
    PM (w.setCell ⟨pb, 5, none⟩ (.slice (if X.pc = 1 then some ⟨b, off, none⟩ else some ⟨b, off + 1, none⟩) pk.length (X.pc - 1))) base pb st { X with pa := if X.pc = 1 then some ⟨b, off, none⟩ else some ⟨b, off + 1, none⟩, pc := X.pc - 1 } K H R { s with pk := pk } := by
  have hc := h.ar.capP
  rw [hp] at hc
  simp at hc
  refine PM.put (c := cells X st K s) h.blk h.low (by simp [cells]) h.vw h.tk ⟨⟨h.ar.seenS, ?_, h.ar.lowS, ?_, by show pk.length ≤ X.pc - 1; omega⟩, h.ar.b1, h.ar.b2, h.ar.l1, h.ar.l2⟩ h.mg
  · have hs := h.ar.seenP
    rw [hp, ha] at hs
    obtain ⟨b', off', e, hlt, hcell⟩ := hs.ex (by simp)
    injection e with e
    injection e with e1 e2
    subst e1 e2
    refine ⟨(iv_len _).symm, fun h0 => ⟨b, off + 1, by show (if X.pc = 1 then _ else _) = _; rw [if_neg (by have h0' : 0 < pk.length := h0; omega)], hlt, fun k v hv => ?_⟩⟩
    have := hcell (k + 1) v (by simpa [iv] using hv)
    rwa [show off + (k + 1) = off + 1 + k by omega] at this
  · intro b' hb' h0
    have : b' = b := by
      have hb2 : blockOf (if X.pc = 1 then some (⟨b, off, none⟩ : Addr) else some ⟨b, off + 1, none⟩) = some b' := hb'
      split at hb2 <;> simpa [blockOf] using hb2.symm
    subst this
    exact h.ar.lowP b' (by rw [ha]; rfl) (by rw [hp]; simp)
/-- A task begins. -/
theorem PM.spawn (h : PM w base pb st X K H R s) {V : Value} {x : Nat × List Nat} {w2 : World} {g cap : Nat} (hk : Keeps None w w1) (ho : w1.ownsRow base 3 1 V x.2.length (nv x.2)) (hm : ∀ b, V.ownBlock = some b → w.heap.size ≤ b)
    (ho2 : w2.ownsRow base 84 2 (.slice (some ⟨g, 0, none⟩) (s.tk.length + 1) cap) (s.tk.length + 1) ((List.range (s.tk.length * 2)).map (tkF s.tk H) ++ [.int .i64 x.1, V])) (hk2 : Keeps (fun k => (Value.slice X.ta s.tk.length X.tc).ownBlock = some k) w1 w2) :
    PM (w2.setCell ⟨pb, 7, none⟩ (.slice (some ⟨g, 0, none⟩) (s.tk.length + 1) cap)) base pb st { X with ta := some ⟨g, 0, none⟩, tc := cap } K (upd H s.tk.length V) (upd R s.tk.length V) { s with tk := s.tk ++ [x] } := by
  have h1 := h.more hk
  have hT := onlyT_own h1.tk.tks
  refine PM.put (c := cells X st K s) (blk_other h1.blk hk2 hT (by decide)) h.low (by simp [cells]) (h1.vw.other hk2 hT (by decide)) ⟨?_, ?_, ?_⟩ (h1.ar.other hk2 (fun i e => row_low h1.tk.tks e)) (row_other h1.mg hk2 hT (by decide))
  · show w2.ownsRow base 84 2 (.slice (some ⟨g, 0, none⟩) (s.tk ++ [x]).length cap) (s.tk ++ [x]).length ((List.range ((s.tk ++ [x]).length * 2)).map (tkF (s.tk ++ [x]) (upd H s.tk.length V)))
    rw [tk_more, List.length_append, List.length_singleton]
    exact ho2
  · intro i hi
    by_cases e : i = s.tk.length
    · subst e
      rw [upd_eq, rowOf_more s.tk x _ hi, if_pos rfl]
      exact row_other ho hk2 hT (by decide)
    · have hr := row_same (R := R) (V := V) hi e
      have hi2 : i < s.tk.length := by have : i < (s.tk ++ [x]).length := hi; simp at this; omega
      show w2.ownsRow base 3 1 (upd R s.tk.length V i) (rowOf (s.tk ++ [x]) i).length (nv (rowOf (s.tk ++ [x]) i))
      rw [hr.1, hr.2]
      exact row_other (h1.tk.rows i hi2) hk2 hT (by decide)
  · intro i j b hi hj hij
    have hi2 : i < s.tk.length + 1 := by have : i < (s.tk ++ [x]).length := hi; simpa using this
    have hj2 : j < s.tk.length + 1 := by have : j < (s.tk ++ [x]).length := hj; simpa using this
    by_cases ei : i = s.tk.length
    · subst ei
      rw [upd_eq, upd_ne (Ne.symm hij)]
      intro e1 e2
      have := hm b e1
      have := own_lt (h.tk.rows j (by omega)) e2
      omega
    · rw [upd_ne ei]
      by_cases ej : j = s.tk.length
      · subst ej
        rw [upd_eq]
        intro e1 e2
        have := hm b e2
        have := own_lt (h.tk.rows i (by omega)) e1
        omega
      · rw [upd_ne ej]
        exact h.tk.apart i j b (by omega) (by omega) hij
theorem PM.spawned (h : PM w base pb st X K H R s) : PM (w.setCell ⟨pb, 8, none⟩ (.int .i64 ((s.spn + 1 : Nat) : Int))) base pb st X K H R { s with spn := s.spn + 1 } :=
  PM.put (c := cells X st K s) h.blk h.low (by simp [cells]) h.vw h.tk h.ar h.mg
/-- The last task is gone. -/
theorem PM.endTask (h : PM w base pb st X K H R s) {tk : List (Nat × List Nat)} {x : Nat × List Nat} (hx : s.tk = tk ++ [x]) : PM (w.setCell ⟨pb, 7, none⟩ (.slice X.ta tk.length X.tc)) base pb st X K H R { s with tk := tk } := by
  have hrow : ∀ i, i < tk.length → rowOf s.tk i = rowOf tk i := fun i hi => by rw [hx, rowOf_more tk x i (by simp; omega), if_neg (by omega)]
  have hlen : s.tk.length = tk.length + 1 := by rw [hx]; simp
  refine PM.put (c := cells X st K s) h.blk h.low (by simp [cells]) h.vw ⟨?_, fun i hi => ?_, fun i j b hi hj => h.tk.apart i j b (by have : i < tk.length := hi; omega) (by have : j < tk.length := hj; omega)⟩ h.ar h.mg
  · have ho := h.tk.tks
    have hvals : (List.range (tk.length * 2)).map (tkF tk H) = ((List.range (s.tk.length * 2)).map (tkF s.tk H)).take (tk.length * 2) := by
      rw [← List.map_take, List.take_range, show min (tk.length * 2) (s.tk.length * 2) = tk.length * 2 by omega]
      refine tk_cong (fun i hi => ?_) (fun _ _ => rfl)
      rw [hx, List.getD_eq_getElem?_getD, List.getD_eq_getElem?_getD, List.getElem?_append_left hi]
    show w.ownsRow base 84 2 (.slice X.ta tk.length X.tc) tk.length ((List.range (tk.length * 2)).map (tkF tk H))
    refine ⟨by simp, ?_⟩
    rcases ho.2 with ⟨e, h0⟩ | ⟨g, cap, cur, e, hb, hg, hn, hm, hcs, ht⟩
    · omega
    · injection e with e1 e2 e3
      refine .inr ⟨g, cap, cur, by rw [e1, e3], hb, hg, by omega, hm, hcs, ?_⟩
      rw [hvals, ← ht, List.take_take]
      congr 1
      omega
  · have hi2 : i < tk.length := hi
    have := h.tk.rows i (by omega)
    rwa [hrow i hi2] at this
/-- The current task's row becomes another one: in its memory. -/
theorem PM.putRow (h : PM w base pb st X K H R s) {tk : List (Nat × List Nat)} {sp : Nat} {r r' : List Nat} {V : Value} (hx : s.tk = tk ++ [(sp, r)]) (ho : w1.ownsRow base 3 1 V r'.length (nv r')) (hk : Keeps (fun k => (R tk.length).ownBlock = some k) w w1) (hm : ∀ b, V.ownBlock = some b → (R tk.length).ownBlock = some b ∨ w.heap.size ≤ b) :
    PM w1 base pb st X K H (upd R tk.length V) { s with tk := tk ++ [(sp, r')] } := by
  have hlen : s.tk.length = tk.length + 1 := by rw [hx]; simp
  have hr := h.tk.rows tk.length (by omega)
  have hT := onlyT_own hr
  refine ⟨?_, h.low, h.vw.other hk hT (by decide), ⟨?_, fun i hi => ?_, ?_⟩, h.ar.other hk (fun i e => row_low hr e), row_other h.mg hk hT (by decide)⟩
  · have := blk_other h.blk hk hT (by decide)
    rw [this]
    simp [cells, hx]
  · have ho2 := row_other h.tk.tks hk hT (by decide)
    show w1.ownsRow base 84 2 (.slice X.ta (tk ++ [(sp, r')]).length X.tc) (tk ++ [(sp, r')]).length ((List.range ((tk ++ [(sp, r')]).length * 2)).map (tkF (tk ++ [(sp, r')]) H))
    have e1 : (tk ++ [(sp, r')]).length = s.tk.length := by rw [hx]; simp
    rw [e1]
    rwa [tk_cong (tk' := s.tk) (H' := H) (fun i hi => ?_) (fun _ _ => rfl)]
    rw [hx, List.getD_eq_getElem?_getD, List.getD_eq_getElem?_getD]
    by_cases e : i < tk.length
    · rw [List.getElem?_append_left e, List.getElem?_append_left e]
    · rw [List.getElem?_append_right (by omega), List.getElem?_append_right (by omega), show i - tk.length = 0 by omega]
      rfl
  · have hi2 : i < tk.length + 1 := by have : i < (tk ++ [(sp, r')]).length := hi; simpa using this
    show w1.ownsRow base 3 1 (upd R tk.length V i) (rowOf (tk ++ [(sp, r')]) i).length (nv (rowOf (tk ++ [(sp, r')]) i))
    rw [rowOf_more tk (sp, r') i hi]
    by_cases e : i = tk.length
    · subst e
      rw [upd_eq, if_pos rfl]
      exact ho
    · rw [upd_ne e, if_neg e]
      have := h.tk.rows i (by omega)
      rw [hx, rowOf_more tk (sp, r) i (by simp; omega), if_neg e] at this
      exact row_kept this hk (fun b e1 e2 => h.tk.apart i tk.length b (by omega) (by omega) e e1 e2)
  · intro i j b hi hj hij
    have hi2 : i < tk.length + 1 := by have : i < (tk ++ [(sp, r')]).length := hi; simpa using this
    have hj2 : j < tk.length + 1 := by have : j < (tk ++ [(sp, r')]).length := hj; simpa using this
    by_cases ei : i = tk.length
    · subst ei
      rw [upd_eq, upd_ne (Ne.symm hij)]
      intro e1 e2
      rcases hm b e1 with h3 | h3
      · exact h.tk.apart _ j b (by omega) (by omega) hij h3 e2
      · have := own_lt (h.tk.rows j (by omega)) e2
        omega
    · rw [upd_ne ei]
      by_cases ej : j = tk.length
      · subst ej
        rw [upd_eq]
        intro e1 e2
        rcases hm b e2 with h3 | h3
        · exact h.tk.apart i _ b (by omega) (by omega) hij e1 h3
        · have := own_lt (h.tk.rows i (by omega)) e1
          omega
      · rw [upd_ne ej]
        exact h.tk.apart i j b (by omega) (by omega) hij
/-- What the tasks say of the current one's row is set. -/
theorem PM.setHead (h : PM w base pb st X K H R s) {tb i : Nat} {V : Value} (hta : X.ta = some ⟨tb, 0, none⟩) : PM (w.setCell ⟨tb, i * 2 + 1, none⟩ V) base pb st X K (upd H i V) R s := by
  obtain ⟨cur, hcur⟩ := own_block h.tk.tks (g := tb) (by rw [hta]; rfl)
  have hk : Keeps (· = tb) w (w.setCell ⟨tb, i * 2 + 1, none⟩ V) := keeps_one (Keeps.refl _ _) _
  have hT : OnlyT (· = tb) w 84 := onlyT_one hcur
  have hlo : base ≤ tb := row_low h.tk.tks (by rw [hta]; rfl)
  refine ⟨blk_other h.blk hk hT (by decide), h.low, h.vw.other hk hT (by decide), ⟨?_, fun i hi => row_other (h.tk.rows i hi) hk hT (by decide), h.tk.apart⟩, h.ar.other hk (fun i e => by omega), row_other h.mg hk hT (by decide)⟩
  have ho := h.tk.tks
  rw [← tk_setH]
  rw [hta] at ho ⊢
  exact row_set ho _ V
end
end Go.Proofs.Ytdiabpoafennlaa.Nm
