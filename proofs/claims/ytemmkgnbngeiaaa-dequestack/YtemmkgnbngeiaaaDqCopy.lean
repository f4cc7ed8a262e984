import Derived.Test.YtemmkgnbngeiaaaDqSeq2
/-! A push that grows. -/
namespace Go.Proofs.Ytemmkgnbngeiaaa
open Go.RowKit Go.HeapKit Go.IntWalk Go.PlainOps

theorem le_cellsFrom (m c n : Nat) : n ≤ cellsFrom m c n := by
  by_cases h : c < m ∧ 0 < c
  · rw [cellsFrom_step h.1 h.2]
    have := le_cellsFrom m (min (2 * c) m) (n + 1 + min (2 * c) m)
    omega
  · rw [cellsFrom, dif_neg h]
    exact Nat.le_refl _
termination_by m - c
decreasing_by omega
theorem grown_nat (c most : Nat) (hc : c ≤ 4096) : grownV c most = ((min (2 * c) most : Nat) : Int) := by
  unfold grownV
  rw [wrap64_in _ (by omega)]
  split <;> omega
theorem goMore {o o1 o2 : OpS} {A A2 : Ar} {n k : Nat} {y : Int} (hf : o.Fit) (hon : A.on = false) (hl : A.log = []) (h0 : ¬ o.at_ = 0) (h1 : ¬ o.at_ = 1) (hw : o.want = (4, 0, y, 0)) (hy : y = k) (hk : 0 < k) (hs : A.cells.length + k ≤ A.size) (ho : o.went A.cells.length true = o1) (h : Goes o1 (A.more k) n o2 A2) : Goes o A (n + 1) o2 A2 := by
  subst hy
  refine .next hf (by simp [hl]) ?_ h
  rw [step_by h0 h1 hw (did_more hon hk hs), ho]
theorem went_11a {o : OpS} {x : Int} {ok : Bool} (h : o.at_ = 11) (hx : wrap64 (o.ix + 1) = o.b) : o.went x ok = { o with ix := wrap64 (o.ix + 1), at_ := 12 } := by unfold OpS.went; rw [h]; simp [hx]
theorem went_11b {o : OpS} {x : Int} {ok : Bool} (h : o.at_ = 11) (hx : ¬ wrap64 (o.ix + 1) = o.b) : o.went x ok = { o with ix := wrap64 (o.ix + 1), at_ := 10 } := by unfold OpS.went; rw [h]; simp [hx]
structure Cp (A0 A : Ar) (t L c2 : Nat) (l : List Int) (i : Nat) : Prop where
  on : A.on = false
  log : A.log = []
  size : A.size = A0.size
  len : A.cells.length = L + 1 + c2
  old : ∀ j, j < L → A.val j = A0.val j
  capv : A.val L = c2
  els : ∀ j, j < i → A.val (L + 1 + (t + j) % c2) = l.getD j 0
section
variable {A : Ar} {most t a c : Nat} {l : List Int}
theorem copy_loop {L c2 : Nat} {v : Int} (h : Dq A most l t a c) (hs : A.cells.length ≤ A.size) (hL : L = A.cells.length) (hc2 : c < c2) (hc3 : c2 ≤ 4096) (hLs : L + 1 + c2 ≤ 1048576) :
    ∀ (r i : Nat) (An : Ar) (mv : Int), i + r = l.length → 0 < r → Cp A An t L c2 l i →
      ∃ An' mv', Goes (OpS.mk 0 most 10 0 v t ((t + l.length : Nat) : Int) a c L c2 ((t + i : Nat) : Int) mv) An (2 * r) (OpS.mk 0 most 12 0 v t ((t + l.length : Nat) : Int) a c L c2 ((t + l.length : Nat) : Int) mv') An' ∧ Cp A An' t L c2 l l.length := by
  have h2 := h.lt2
  have hac := h.ac hs
  have hc1 := h.c1
  have hcm := h.cm
  have hm1 := h.m1
  have hbig := h.big
  have hlen := h.len
  have hfit := h.fit
  have ha3 := h.a3
  intro r
  induction r with
  | zero => intro i An mv _ h0; omega
  | succ r ih =>
    intro i An mv hir _ hC
    have hCl := hC.len
    have hmo := Nat.mod_lt (t + i) (show 0 < c by omega)
    have hmn := Nat.mod_lt (t + i) (show 0 < c2 by omega)
    have he := h.elem i (by omega)
    have ei : wrap64 (((t + i : Nat) : Int) + 1) = ((t + (i + 1) : Nat) : Int) := by rw [wrap64_in _ (by omega)]; omega
    have hC1 : Cp A (An.put (L + 1 + (t + i) % c2) (l.getD i 0)) t L c2 l (i + 1) := by
      refine ⟨hC.on, hC.log, hC.size, by rw [put_cells]; exact hC.len, fun j hj => ?_, ?_, fun j hj => ?_⟩
      · rw [put_val (by omega), if_neg (by omega)]; exact hC.old j hj
      · rw [put_val (by omega), if_neg (by omega)]; exact hC.capv
      · rw [put_val (by omega)]
        by_cases hji : j = i
        · subst hji; rw [if_pos rfl]
        · have := mod_ne (t := t) (i := j) (n := i) (c := c2) (by omega) (by omega)
          rw [if_neg (by omega)]
          exact hC.els j (by omega)
    have hgo : ∀ {o2 : OpS} {A2 : Ar} {n : Nat} (o1 : OpS), (OpS.mk 0 most 11 0 v t ((t + l.length : Nat) : Int) a c L c2 ((t + i : Nat) : Int) (l.getD i 0)).went 0 true = o1 → Goes o1 (An.put (L + 1 + (t + i) % c2) (l.getD i 0)) n o2 A2 →
        Goes (OpS.mk 0 most 10 0 v t ((t + l.length : Nat) : Int) a c L c2 ((t + i : Nat) : Int) mv) An (n + 1 + 1) o2 A2 := by
      intro o2 A2 n o1 ho hg
      refine goLoad (o := OpS.mk 0 most 10 0 v t ((t + l.length : Nat) : Int) a c L c2 ((t + i : Nat) : Int) mv) (o1 := OpS.mk 0 most 11 0 v t ((t + l.length : Nat) : Int) a c L c2 ((t + i : Nat) : Int) (l.getD i 0)) (k := (a + 1 + (t + i) % c)) (x := (l.getD i 0)) ⟨.inr ⟨by simp, by simp⟩, by simp; omega, by simp; omega⟩ hC.on hC.log (by simp) (by simp) rfl (place_nat a c (t + i) hac hc1) (by omega) (by rw [hC.old _ (by omega)]; exact he) rfl ?_
      exact goStore (o := OpS.mk 0 most 11 0 v t ((t + l.length : Nat) : Int) a c L c2 ((t + i : Nat) : Int) (l.getD i 0)) (o1 := o1) (k := (L + 1 + (t + i) % c2)) (v := (l.getD i 0)) ⟨.inr ⟨by simp, by simp⟩, by simp; omega, by simp; omega⟩ hC.on hC.log (by simp) (by simp) rfl (place_nat L c2 (t + i) (by omega) (by omega)) (by omega) ho hg
    by_cases hr : r = 0
    · subst hr
      have hil : i + 1 = l.length := by omega
      refine ⟨_, l.getD i 0, hgo _ (went_11a rfl ?_) ?_, hil ▸ hC1⟩
      · show wrap64 (((t + i : Nat) : Int) + 1) = ((t + l.length : Nat) : Int)
        rw [ei, hil]
      · show Goes (OpS.mk 0 most 12 0 v t ((t + l.length : Nat) : Int) a c L c2 (wrap64 (((t + i : Nat) : Int) + 1)) (l.getD i 0)) _ 0 _ _
        rw [ei, hil]
        exact .done _ _
    · obtain ⟨An', mv', hg, hC'⟩ := ih (i + 1) _ (l.getD i 0) (by omega) (by omega) hC1
      refine ⟨An', mv', ?_, hC'⟩
      rw [show 2 * (r + 1) = 2 * r + 1 + 1 by omega]
      refine hgo _ (went_11b rfl ?_) ?_
      · show ¬ wrap64 (((t + i : Nat) : Int) + 1) = ((t + l.length : Nat) : Int)
        rw [ei]
        omega
      · show Goes (OpS.mk 0 most 10 0 v t ((t + l.length : Nat) : Int) a c L c2 (wrap64 (((t + i : Nat) : Int) + 1)) (l.getD i 0)) _ _ _ _
        rw [ei]
        exact hg
theorem cp_start {A : Ar} {t c2 : Nat} {l : List Int} (hon : A.on = false) (hlog : A.log = []) : Cp A ((A.more (1 + c2)).put A.cells.length c2) t A.cells.length c2 l 0 := by
  have hlm : (A.more (1 + c2)).cells.length = A.cells.length + (1 + c2) := more_len A (1 + c2)
  have hlt : A.cells.length < (A.more (1 + c2)).cells.length := by rw [hlm]; exact Nat.lt_add_of_pos_right (by omega)
  refine ⟨hon, hlog, rfl, by rw [put_cells, hlm, Nat.add_assoc], fun j hj => ?_, ?_, fun j hj => absurd hj (Nat.not_lt_zero j)⟩
  · rw [put_val hlt, if_neg (Nat.ne_of_lt hj), more_val]
  · rw [put_val hlt, if_pos rfl]
theorem grow_end {An : Ar} {most t a c L c2 : Nat} {l : List Int} {v mv' : Int} (hon : An.on = false) (hlog : An.log = []) (hCl : An.cells.length = L + 1 + c2) (hL3 : 3 ≤ L) (hc1 : 1 ≤ c2) (hc3 : c2 ≤ 4096) (hcx : c ≤ 4096) (hLs : L + 1 + c2 ≤ 1048576) (hb : t + l.length < 1125899906842624) :
    Goes (OpS.mk 0 most 12 0 v t ((t + l.length : Nat) : Int) a c L c2 ((t + l.length : Nat) : Int) mv') An 3 (OpS.ended 2 0) (((An.put 2 L).put (L + 1 + (t + l.length) % c2) v).put 1 ((t + l.length + 1 : Nat) : Int)) := by
  have hmod := Nat.mod_lt (t + l.length) (show 0 < c2 by omega)
  have e1 : wrap64 (((t + l.length : Nat) : Int) + 1) = ((t + l.length + 1 : Nat) : Int) := by rw [wrap64_in _ (by omega)]; omega
  refine goStore (o := OpS.mk 0 most 12 0 v t ((t + l.length : Nat) : Int) a c L c2 ((t + l.length : Nat) : Int) mv') (o1 := OpS.mk 0 most 6 0 v t ((t + l.length : Nat) : Int) L c2 L c2 ((t + l.length : Nat) : Int) mv') (k := 2) (v := L) ⟨.inr ⟨by simp, by simp⟩, by simp; omega, by simp; omega⟩ hon hlog (by simp) (by simp) rfl wr2 (by omega) rfl ?_
  refine goStore (o := OpS.mk 0 most 6 0 v t ((t + l.length : Nat) : Int) L c2 L c2 ((t + l.length : Nat) : Int) mv') (o1 := OpS.mk 0 most 7 0 v t ((t + l.length : Nat) : Int) L c2 L c2 ((t + l.length : Nat) : Int) mv') (k := (L + 1 + (t + l.length) % c2)) (v := v) ⟨.inr ⟨by simp, by simp⟩, by simp; omega, by simp; omega⟩ (show (An.put _ _).on = false from hon) (show (An.put _ _).log = [] from hlog) (by simp) (by simp) rfl (place_nat L c2 (t + l.length) (by omega) (by omega)) (by rw [put_cells]; omega) rfl ?_
  exact goStore (o := OpS.mk 0 most 7 0 v t ((t + l.length : Nat) : Int) L c2 L c2 ((t + l.length : Nat) : Int) mv') (o1 := OpS.ended 2 0) (k := 1) (v := ((t + l.length + 1 : Nat) : Int)) ⟨.inr ⟨by simp, by simp⟩, by simp; omega, by simp; omega⟩ (show ((An.put _ _).put _ _).on = false from hon) (show ((An.put _ _).put _ _).log = [] from hlog) (by simp) (by simp) (by rw [← e1]; rfl) wr1 (by rw [put_cells, put_cells]; omega) rfl (.done _ _)
theorem grow_dq {A An : Ar} {most t L c2 : Nat} {l : List Int} {v : Int} (hC : Cp A An t L c2 l l.length) (hm1 : most ≤ 4096) (hL3 : 3 ≤ L) (hlc : l.length < c2) (hcx : c2 ≤ most) (htop : A.val 0 = t) (hroom : cellsFrom most c2 (L + 1 + c2) = A.size) (hsz : A.size ≤ 1048576) (hb : t + l.length < 1125899906842624) :
    Dq (((An.put 2 L).put (L + 1 + (t + l.length) % c2) v).put 1 ((t + l.length + 1 : Nat) : Int)) most (l ++ [v]) t L c2 := by
  have hCl := hC.len
  have hmod := Nat.mod_lt (t + l.length) (show 0 < c2 by omega)
  have HR : Hid (cellsFrom most c2 (L + 1 + c2) = A.size) := hroom
  clear hroom
  have hv : ∀ j, (((An.put 2 L).put (L + 1 + (t + l.length) % c2) v).put 1 ((t + l.length + 1 : Nat) : Int)).val j = if j = 1 then ((t + l.length + 1 : Nat) : Int) else if j = L + 1 + (t + l.length) % c2 then v else if j = 2 then (L : Int) else An.val j := fun j => by
    rw [put_val (by rw [put_cells, put_cells]; omega), put_val (by rw [put_cells]; omega), put_val (by omega)]
  refine ⟨hC.on, hC.log, hm1, by rw [hv, if_neg (by omega), if_neg (by omega), if_neg (by omega), hC.old 0 (by omega), htop], by rw [hv, if_pos rfl]; simp; omega, by rw [hv, if_neg (by omega), if_neg (by omega), if_pos rfl], by rw [hv, if_neg (by omega), if_neg (by omega), if_neg (by omega), hC.capv], hL3, by rw [put_cells, put_cells, put_cells]; omega, by omega, hcx, by simp; omega, fun i hi => ?_, ?_, ?_, by simp; omega⟩
  · rw [hv, if_neg (by omega)]
    simp at hi
    by_cases hil : i = l.length
    · subst hil
      rw [if_pos rfl]
      simp [List.getD]
    · have hne := mod_ne (t := t) (i := i) (n := l.length) (c := c2) (by omega) (by omega)
      rw [if_neg (by omega), if_neg (by omega), hC.els i (by omega)]
      simp [List.getD, List.getElem?_append, show i < l.length by omega]
  · rw [put_cells, put_cells, put_cells, hCl]
    exact HR.out.trans hC.size.symm
  · rw [show (((An.put 2 L).put (L + 1 + (t + l.length) % c2) v).put 1 ((t + l.length + 1 : Nat) : Int)).size = An.size from rfl, hC.size]
    exact hsz
end
end Go.Proofs.Ytemmkgnbngeiaaa
