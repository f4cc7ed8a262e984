import Derived.Test.YtokfbagacehbgaaDoorSwMem
import Derived.Test.YtokfbagacehbgaaDoorSuSim
/-! A copied program whose codes are put anew. -/
namespace Go.Proofs.YtokfbagacehbgaaDoor
set_option linter.unusedVariables false
set_option maxRecDepth 20000
open Go.RowKit Go.HeapKit Go.PlainOps

theorem own_less {w : World} {base base' : Nat} {v : Value} {n : Nat} {vs : List Value} (h : w.ownsRow base' 37 5 v n vs) (hb : base ≤ base') : w.ownsRow base 37 5 v n vs := by
  refine ⟨h.1, ?_⟩
  rcases h.2 with h0 | ⟨g, cap, cur, h1, h2, h3⟩
  · exact .inl h0
  · exact .inr ⟨g, cap, cur, h1, Nat.le_trans hb h2, h3⟩
theorem own_from {w : World} {base : Nat} {v : Value} {n i : Nat} {vs : List Value} (h : w.ownsRow base 37 5 v n vs) (e : v.ownBlock = some i) : base ≤ i := by
  rcases h.2 with ⟨rfl, _⟩ | ⟨g, cap, cur, rfl, h2, h3⟩
  · simp [Value.ownBlock] at e
  · simp [Value.ownBlock] at e; omega
theorem ins_more (base : Nat) (v : Value) (l : List Ins) (x : Ins) (n g ty : Nat) (w : World) (hn : n = l.length) (h : w.ownsRow base 37 5 v n (insVals l)) (hb : base ≤ w.heap.size) (hlen : (n + 1) * 40 ≤ 140737488355328)
    (hg : w.heap[g]? = some (.cells #[.int .i64 x.kind, .int .i64 x.a, .int .i64 x.b, .int .i64 x.c, .int .i64 x.k] 37 (0, 0))) :
    ∃ b cap w', (Builtin.append_ #[33, 33] ty #[v, .slice (some ⟨g, 0, none⟩) 1 1]).run Tryd.prog w = .ok (.slice (some ⟨b, 0, none⟩) (n + 1) cap) w' ∧
      w'.ownsRow base 37 5 (.slice (some ⟨b, 0, none⟩) (n + 1) cap) (n + 1) (insVals (l ++ [x])) ∧ Keeps (fun k => v.ownBlock = some k) w w' := by
  obtain ⟨b, cap, w', hr, ho, hk, hlo⟩ := ins_append v l x n g ty w hn (own_less h (Nat.zero_le _)) hlen hg
  refine ⟨b, cap, w', hr, ⟨ho.1, ?_⟩, hk⟩
  rcases ho.2 with h0 | ⟨g', cap', cur, h1, h2, h3⟩
  · exact .inl h0
  · refine .inr ⟨g', cap', cur, h1, ?_, h3⟩
    injection h1 with e1
    injection e1 with e1
    injection e1 with e1
    rcases hlo with e | e
    · have := own_from h e
      omega
    · omega
theorem flat4_last (R : List (List Value)) (h : ∀ r ∈ R, r.length = 4) (k : Nat) (a b c o d : Value) (hk : R[k]? = some [a, b, c, o]) : R.flatten.set (k * 4 + 3) d = (R.set k [a, b, c, d]).flatten := by
  induction R generalizing k with
  | nil => simp at hk
  | cons y R ih =>
    have hy := h y (by simp)
    match y, hy with
    | [y0, y1, y2, y3], _ =>
      cases k with
      | zero =>
        simp at hk
        obtain ⟨rfl, rfl, rfl, rfl⟩ := hk
        rfl
      | succ k =>
        have h1 := ih (fun r hr => h r (by simp [hr])) k (by simpa using hk)
        rw [List.set_cons_succ, List.flatten_cons, List.flatten_cons, ← h1, show (k + 1) * 4 + 3 = (k * 4 + 3) + 4 by omega]
        rfl
/-- The code of one function is put anew. -/
theorem Cp.setCode {base : Nat} {w : World} {l : List Fn} {g n qc : Nat} {tv : List At} (h : Cp base w l (.slice (some ⟨g, 0, none⟩) n qc) tv) (hn : n = l.length) {i : Nat} {f : Fn} {t : At} (hf : l[i]? = some f) (ht : tv[i]? = some t) {nb m cap : Nat} {cs : List Ins} (hm : m = cs.length)
    (hrow : w.ownsRow 0 37 5 (.slice (some ⟨nb, 0, none⟩) m cap) m (insVals cs)) (hb : base ≤ nb) (hnew : ∀ (j : Nat) (u : At) (q : Nat), tv[j]? = some u → u.blk = some q → q ≠ nb) :
    Cp base (w.setCell ⟨g, i * 4 + 3, none⟩ (.slice (some ⟨nb, 0, none⟩) m cap)) (l.set i { f with code := cs }) (.slice (some ⟨g, 0, none⟩) n qc) (tv.set i (some ⟨nb, 0, none⟩, cap)) ∧ Keeps (· = g) w (w.setCell ⟨g, i * 4 + 3, none⟩ (.slice (some ⟨nb, 0, none⟩) m cap)) ∧ base ≤ g ∧ w.frozen? ⟨g, i * 4 + 3, none⟩ = false := by
  subst hm
  have hil := (List.getElem?_eq_some_iff.1 hf).1
  have hkk : Keeps (· = g) w (w.setCell ⟨g, i * 4 + 3, none⟩ (.slice (some ⟨nb, 0, none⟩) cs.length cap)) := Keeps.setCell (S := (· = g)) w (a := ⟨g, i * 4 + 3, none⟩) rfl _
  obtain ⟨g', C, eg, hC, _⟩ := h.rows hn (by omega)
  injection eg with eg
  injection eg with eg
  subst eg
  have hz := zip_at tfCells l tv i f t hf ht
  have hrows : (List.zipWith tfCells l tv).set i (tfCells { f with code := cs } (some ⟨nb, 0, none⟩, cap)) = List.zipWith tfCells (l.set i { f with code := cs }) (tv.set i (some ⟨nb, 0, none⟩, cap)) := by
    apply List.ext_getElem?
    intro k
    rw [List.getElem?_zipWith]
    by_cases hk : i = k
    · subst hk
      rw [List.getElem?_set_self (by rw [List.length_zipWith, h.len]; simp; exact hil), List.getElem?_set_self hil, List.getElem?_set_self (by rw [h.len]; exact hil)]
    · rw [List.getElem?_set_ne hk, List.getElem?_set_ne hk, List.getElem?_set_ne hk, List.getElem?_zipWith]
  refine ⟨⟨?_, ?_, by simp [h.len], h.low, ?_, ?_⟩, hkk, h.low g rfl, blk_free hC _⟩
  · have hr := h.row
    rw [← hn] at hr
    have h1 := own_put (i := i * 4 + 3) (.slice (some ⟨nb, 0, none⟩) cs.length cap) hr
    rw [flat4_last _ (zip_four l tv) i _ _ _ _ _ hz] at h1
    have e : tfCells { f with code := cs } (some ⟨nb, 0, none⟩, cap) = [.int .i64 f.params, .int .i64 f.regs, .int .i64 f.slots, .slice (some ⟨nb, 0, none⟩) cs.length cap] := rfl
    rw [← e, hrows] at h1
    rw [List.length_set, ← hn]
    exact h1
  · intro j f' t' hf' ht'
    by_cases hj : i = j
    · subst hj
      rw [List.getElem?_set_self hil] at hf'
      obtain rfl := Option.some.inj hf'
      rw [List.getElem?_set_self (by rw [h.len]; exact hil)] at ht'
      obtain rfl := Option.some.inj ht'
      have h2 := hkk.own hrow (fun q e hq => by subst hq; exact absurd (own_type hrow e hC) (by decide))
      exact h2
    · rw [List.getElem?_set_ne hj] at hf' ht'
      have ho := h.code j f' t' hf' ht'
      exact hkk.own ho (fun q e hq => by subst hq; exact absurd (own_type ho e hC) (by decide))
  · intro j t' q ht' hq
    by_cases hj : i = j
    · subst hj
      rw [List.getElem?_set_self (by rw [h.len]; exact hil)] at ht'
      obtain rfl := Option.some.inj ht'
      simp [At.blk, Value.ownBlock] at hq
      omega
    · rw [List.getElem?_set_ne hj] at ht'
      exact h.cl j t' q ht' hq
  · intro j k t1 t2 q h1 h2 h3 h4
    by_cases hj : i = j
    · subst hj
      rw [List.getElem?_set_self (by rw [h.len]; exact hil)] at h1
      obtain rfl := Option.some.inj h1
      have hq : q = nb := by simp [At.blk, Value.ownBlock] at h3; omega
      by_cases hk : i = k
      · exact hk
      · rw [List.getElem?_set_ne hk] at h2
        exact absurd hq (hnew k t2 q h2 h4)
    · rw [List.getElem?_set_ne hj] at h1
      by_cases hk : i = k
      · subst hk
        rw [List.getElem?_set_self (by rw [h.len]; exact hil)] at h2
        obtain rfl := Option.some.inj h2
        have hq : q = nb := by simp [At.blk, Value.ownBlock] at h4; omega
        exact absurd hq (hnew j t1 q h1 h3)
      · rw [List.getElem?_set_ne hk] at h2
        exact h.nd j k t1 t2 q h1 h2 h3 h4
theorem Cp.lt {base : Nat} {w : World} {l : List Fn} {qv : Value} {tv : List At} (h : Cp base w l qv tv) {j : Nat} {u : At} {q : Nat} (hu : tv[j]? = some u) (hq : u.blk = some q) : q < w.heap.size := by
  have hjl := (List.getElem?_eq_some_iff.1 hu).1
  obtain ⟨C, hC⟩ := own_block (h.code j (l[j]'(by rw [← h.len]; exact hjl)) u (by simp) hu) (by rw [← hq]; exact At.blk_slice _ _ _ _)
  exact blk_lt hC
/-- How far it is done. -/
def half (l : List Fn) (i : Nat) : List Fn := (l.take i).map fnP ++ l.drop i
theorem half_len (l : List Fn) (i : Nat) (hi : i ≤ l.length) : (half l i).length = l.length := by simp [half]; omega
theorem half_at {l : List Fn} {i : Nat} {f : Fn} (hf : l[i]? = some f) : (half l i)[i]? = some f := by
  have hil := (List.getElem?_eq_some_iff.1 hf).1
  unfold half
  rw [List.getElem?_append_right (by simp; omega), List.getElem?_drop]
  simp only [List.length_map, List.length_take]
  rw [show i + (i - min i l.length) = i by omega]
  exact hf
theorem half_step {l : List Fn} {i : Nat} {f : Fn} (hf : l[i]? = some f) : (half l i).set i (fnP f) = half l (i + 1) := by
  have hil := (List.getElem?_eq_some_iff.1 hf).1
  unfold half
  rw [List.set_append_right _ _ (by simp; omega), show i - ((l.take i).map fnP).length = 0 by simp; omega, List.drop_eq_getElem_cons hil, List.set_cons_zero, List.take_add_one, hf]
  simp
theorem half_end (l : List Fn) : half l l.length = pauseL l := by simp [half, pauseL]
end Go.Proofs.YtokfbagacehbgaaDoor
