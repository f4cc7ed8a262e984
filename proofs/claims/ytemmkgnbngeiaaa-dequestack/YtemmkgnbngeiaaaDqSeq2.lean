import Derived.Test.YtemmkgnbngeiaaaDqSeq
/-! Steals, pops and pushes that do not grow. -/
namespace Go.Proofs.Ytemmkgnbngeiaaa
open Go.RowKit Go.HeapKit Go.IntWalk Go.PlainOps

section
variable {A : Ar} {most t a c : Nat} {l : List Int}
theorem went_16a {o : OpS} {x : Int} {ok : Bool} (h : o.at_ = 16) (hx : o.b < x) : o.went x ok = { o with t := x, at_ := 17 } := by unfold OpS.went; rw [h]; simp [hx]
theorem went_16b {o : OpS} {x : Int} {ok : Bool} (h : o.at_ = 16) (hx : ¬ o.b < x) : o.went x ok = { o with t := x, at_ := 18 } := by unfold OpS.went; rw [h]; simp [hx]
theorem went_19a {o : OpS} {x : Int} {ok : Bool} (h : o.at_ = 19) (hx : o.t < o.b) : o.went x ok = OpS.ended 4 x := by unfold OpS.went; rw [h]; simp [hx]
theorem went_19b {o : OpS} {x : Int} {ok : Bool} (h : o.at_ = 19) (hx : ¬ o.t < o.b) : o.went x ok = { o with v := x, at_ := 20 } := by unfold OpS.went; rw [h]; simp [hx]
theorem went_23b {o : OpS} {x : Int} {ok : Bool} (h : o.at_ = 23) (hx : ¬ x ≤ o.t) : o.went x ok = { o with b := x, at_ := 24 } := by unfold OpS.went; rw [h]; simp [hx]
theorem flat_c {o : OpS} {n : Int} (h : 1 ≤ o.c) : flatS o n = { o with at_ := n } := if_neg (by omega)
theorem steal_seq {x : Int} (h : Dq A most (x :: l) t a c) (hs : A.cells.length ≤ A.size) : ∃ A', Goes (OpS.mk 0 most 22 0 0 0 0 0 0 0 0 0 0) A 6 (OpS.ended 4 x) A' ∧ Dq A' most l (t + 1) a c ∧ A'.cells.length = A.cells.length ∧ A'.size = A.size := by
  have h2 := h.lt2
  have hac := h.ac hs
  have hc1 := h.c1
  have hcm := h.cm
  have hm1 := h.m1
  have hbig := h.big
  have hlen := h.len
  have hfit := h.fit
  have ha3 := h.a3
  have hmod := Nat.mod_lt t (show 0 < c by omega)
  have he := h.elem 0 (by simp)
  simp at he hlen hbig
  refine ⟨A.put 0 ((t + 1 : Nat) : Int), ?_, ?_, put_cells, rfl⟩
  · skip
    refine goLoad (o := OpS.mk 0 most 22 0 0 0 0 0 0 0 0 0 0) (o1 := OpS.mk 0 most 23 0 0 t 0 0 0 0 0 0 0) (k := 0) ⟨.inr ⟨by simp, by simp⟩, by simp, by simp⟩ h.on h.log (by simp) (by simp) rfl wr0 (by omega) h.top rfl ?_
    refine goLoad (o := OpS.mk 0 most 23 0 0 t 0 0 0 0 0 0 0) (o1 := OpS.mk 0 most 24 0 0 t ((t + (x :: l).length : Nat) : Int) 0 0 0 0 0 0) (k := 1) ⟨.inr ⟨by simp, by simp⟩, by simp, by simp⟩ h.on h.log (by simp) (by simp) rfl wr1 (by omega) h.bot (went_23b rfl (by simp; omega)) ?_
    refine goLoad (o := OpS.mk 0 most 24 0 0 t ((t + (x :: l).length : Nat) : Int) 0 0 0 0 0 0) (o1 := OpS.mk 0 most 25 0 0 t ((t + (x :: l).length : Nat) : Int) a 0 0 0 0 0) (k := 2) ⟨.inr ⟨by simp, by simp⟩, by simp, by simp⟩ h.on h.log (by simp) (by simp) rfl wr2 (by omega) h.buf rfl ?_
    refine goLoad (o := OpS.mk 0 most 25 0 0 t ((t + (x :: l).length : Nat) : Int) a 0 0 0 0 0) (o1 := OpS.mk 0 most 26 0 0 t ((t + (x :: l).length : Nat) : Int) a c 0 0 0 0) (k := a) ⟨.inr ⟨by simp, by simp⟩, by simp, by simp⟩ h.on h.log (by simp) (by simp) rfl rfl (by omega) h.cap (flat_c (by simp; omega)) ?_
    refine goLoad (o := OpS.mk 0 most 26 0 0 t ((t + (x :: l).length : Nat) : Int) a c 0 0 0 0) (o1 := OpS.mk 0 most 27 0 x t ((t + (x :: l).length : Nat) : Int) a c 0 0 0 0) (k := (a + 1 + t % c)) ⟨.inr ⟨by simp, by simp⟩, by simp; omega, by simp⟩ h.on h.log (by simp) (by simp) rfl (place_nat a c t hac hc1) (by omega) he rfl ?_
    have e1 : wrap64 ((t : Int) + 1) = ((t + 1 : Nat) : Int) := by rw [wrap64_in _ (by omega)]; omega
    refine goCas (o := OpS.mk 0 most 27 0 x t ((t + (x :: l).length : Nat) : Int) a c 0 0 0 0) (o1 := OpS.ended 4 x) (k := 0) (x := t) (v := ((t + 1 : Nat) : Int)) ⟨.inr ⟨by simp, by simp⟩, by simp; omega, by simp⟩ h.on h.log (by simp) (by simp) (by rw [← e1]; rfl) wr0 (by omega) h.top rfl (.done _ _)
  · have hv : ∀ j, ¬ j = 0 → (A.put 0 ((t + 1 : Nat) : Int)).val j = A.val j := fun j hj => by rw [put_val (by omega), if_neg hj]
    refine ⟨h.on, h.log, hm1, by rw [put_val (by omega), if_pos rfl], by rw [hv 1 (by omega), h.bot]; simp; omega, by rw [hv 2 (by omega), h.buf], by rw [hv a (by omega), h.cap], ha3, by rw [put_cells]; exact hfit, hc1, hcm, by omega, fun i hi => ?_, by rw [put_cells]; exact h.room, h.sz, by omega⟩
    rw [hv _ (by omega)]
    have := h.elem (i + 1) (by simp; omega)
    rw [show t + 1 + i = t + (i + 1) by omega, this]
    simp
theorem pop_none (h : Dq A most [] t a c) (hs : A.cells.length ≤ A.size) : ∃ A', Goes (OpS.mk 0 most 13 0 0 0 0 0 0 0 0 0 0) A 5 (OpS.ended 5 0) A' ∧ Dq A' most [] t a c ∧ A'.cells.length = A.cells.length ∧ A'.size = A.size := by
  have h2 := h.lt2
  have hac := h.ac hs
  have hc1 := h.c1
  have hcm := h.cm
  have hm1 := h.m1
  have hbig := h.big
  have hlen := h.len
  have hfit := h.fit
  have ha3 := h.a3
  simp at hbig
  have eb : wrap64 (((t + ([] : List Int).length : Nat) : Int) - 1) = (t : Int) - 1 := by rw [wrap64_in _ (by simp; omega)]; simp
  refine ⟨(A.put 1 ((t : Int) - 1)).put 1 t, ?_, ?_, by rw [put_cells, put_cells], rfl⟩
  · skip
    refine goLoad (o := OpS.mk 0 most 13 0 0 0 0 0 0 0 0 0 0) (o1 := OpS.mk 0 most 14 0 0 0 ((t : Int) - 1) 0 0 0 0 0 0) (k := 1) ⟨.inr ⟨by simp, by simp⟩, by simp, by simp⟩ h.on h.log (by simp) (by simp) rfl wr1 (by omega) h.bot (by show OpS.mk _ _ _ _ _ _ (wrap64 _) _ _ _ _ _ _ = _; rw [eb]) ?_
    refine goLoad (o := OpS.mk 0 most 14 0 0 0 ((t : Int) - 1) 0 0 0 0 0 0) (o1 := OpS.mk 0 most 15 0 0 0 ((t : Int) - 1) a 0 0 0 0 0) (k := 2) ⟨.inr ⟨by simp, by simp⟩, by simp, by simp⟩ h.on h.log (by simp) (by simp) rfl wr2 (by omega) h.buf rfl ?_
    refine goStore (o := OpS.mk 0 most 15 0 0 0 ((t : Int) - 1) a 0 0 0 0 0) (o1 := OpS.mk 0 most 16 0 0 0 ((t : Int) - 1) a 0 0 0 0 0) (k := 1) (v := ((t : Int) - 1)) ⟨.inr ⟨by simp, by simp⟩, by simp, by simp⟩ h.on h.log (by simp) (by simp) rfl wr1 (by omega) rfl ?_
    refine goLoad (o := OpS.mk 0 most 16 0 0 0 ((t : Int) - 1) a 0 0 0 0 0) (o1 := OpS.mk 0 most 17 0 0 t ((t : Int) - 1) a 0 0 0 0 0) (k := 0) (x := t) ⟨.inr ⟨by simp, by simp⟩, by simp, by simp⟩ (show (A.put 1 _).on = false from h.on) (show (A.put 1 _).log = [] from h.log) (by simp) (by simp) rfl wr0 (by rw [put_cells]; omega) (by rw [put_val (by omega), if_neg (by omega)]; exact h.top) (went_16a rfl (by simp; omega)) ?_
    refine goStore (o := OpS.mk 0 most 17 0 0 t ((t : Int) - 1) a 0 0 0 0 0) (o1 := OpS.ended 5 0) (k := 1) (v := t) ⟨.inr ⟨by simp, by simp⟩, by simp, by simp⟩ (show (A.put 1 _).on = false from h.on) (show (A.put 1 _).log = [] from h.log) (by simp) (by simp) rfl wr1 (by rw [put_cells]; omega) rfl (.done _ _)
  · have hv : ∀ j, ((A.put 1 ((t : Int) - 1)).put 1 t).val j = A.val j := fun j => by
      rw [put_val (by rw [put_cells]; omega), put_val (by omega)]
      by_cases hj : j = 1
      · subst hj; rw [if_pos rfl, h.bot]; simp
      · rw [if_neg hj, if_neg hj]
    exact ⟨h.on, h.log, hm1, by rw [hv, h.top], by rw [hv, h.bot], by rw [hv, h.buf], by rw [hv, h.cap], ha3, by rw [put_cells, put_cells]; exact hfit, hc1, hcm, by simp, fun i hi => by simp at hi, by rw [put_cells, put_cells]; exact h.room, h.sz, by simpa using hbig⟩
theorem pop_one {x : Int} (h : Dq A most [x] t a c) (hs : A.cells.length ≤ A.size) : ∃ A', Goes (OpS.mk 0 most 13 0 0 0 0 0 0 0 0 0 0) A 8 (OpS.ended 4 x) A' ∧ Dq A' most [] (t + 1) a c ∧ A'.cells.length = A.cells.length ∧ A'.size = A.size := by
  have h2 := h.lt2
  have hac := h.ac hs
  have hc1 := h.c1
  have hcm := h.cm
  have hm1 := h.m1
  have hbig := h.big
  have hlen := h.len
  have hfit := h.fit
  have ha3 := h.a3
  have hmod := Nat.mod_lt t (show 0 < c by omega)
  have he := h.elem 0 (by simp)
  simp at he hbig
  have eb : wrap64 (((t + [x].length : Nat) : Int) - 1) = (t : Int) := by rw [wrap64_in _ (by simp; omega)]; simp
  have e1 : wrap64 ((t : Int) + 1) = ((t + 1 : Nat) : Int) := by rw [wrap64_in _ (by omega)]; omega
  refine ⟨((A.put 1 t).put 0 ((t + 1 : Nat) : Int)).put 1 ((t + 1 : Nat) : Int), ?_, ?_, by rw [put_cells, put_cells, put_cells], rfl⟩
  · have hv1 : ∀ j, ¬ j = 1 → (A.put 1 t).val j = A.val j := fun j hj => by rw [put_val (by omega), if_neg hj]
    refine goLoad (o := OpS.mk 0 most 13 0 0 0 0 0 0 0 0 0 0) (o1 := OpS.mk 0 most 14 0 0 0 t 0 0 0 0 0 0) (k := 1) ⟨.inr ⟨by simp, by simp⟩, by simp, by simp⟩ h.on h.log (by simp) (by simp) rfl wr1 (by omega) h.bot (by show OpS.mk _ _ _ _ _ _ (wrap64 _) _ _ _ _ _ _ = _; rw [eb]) ?_
    refine goLoad (o := OpS.mk 0 most 14 0 0 0 t 0 0 0 0 0 0) (o1 := OpS.mk 0 most 15 0 0 0 t a 0 0 0 0 0) (k := 2) ⟨.inr ⟨by simp, by simp⟩, by simp, by simp⟩ h.on h.log (by simp) (by simp) rfl wr2 (by omega) h.buf rfl ?_
    refine goStore (o := OpS.mk 0 most 15 0 0 0 t a 0 0 0 0 0) (o1 := OpS.mk 0 most 16 0 0 0 t a 0 0 0 0 0) (k := 1) (v := t) ⟨.inr ⟨by simp, by simp⟩, by simp, by simp⟩ h.on h.log (by simp) (by simp) rfl wr1 (by omega) rfl ?_
    refine goLoad (o := OpS.mk 0 most 16 0 0 0 t a 0 0 0 0 0) (o1 := OpS.mk 0 most 18 0 0 t t a 0 0 0 0 0) (k := 0) (x := t) ⟨.inr ⟨by simp, by simp⟩, by simp, by simp⟩ (show (A.put 1 _).on = false from h.on) (show (A.put 1 _).log = [] from h.log) (by simp) (by simp) rfl wr0 (by rw [put_cells]; omega) (by rw [hv1 0 (by omega)]; exact h.top) (went_16b rfl (by simp)) ?_
    refine goLoad (o := OpS.mk 0 most 18 0 0 t t a 0 0 0 0 0) (o1 := OpS.mk 0 most 19 0 0 t t a c 0 0 0 0) (k := a) (x := c) ⟨.inr ⟨by simp, by simp⟩, by simp, by simp⟩ (show (A.put 1 _).on = false from h.on) (show (A.put 1 _).log = [] from h.log) (by simp) (by simp) rfl rfl (by rw [put_cells]; omega) (by rw [hv1 a (by omega)]; exact h.cap) (flat_c (by simp; omega)) ?_
    refine goLoad (o := OpS.mk 0 most 19 0 0 t t a c 0 0 0 0) (o1 := OpS.mk 0 most 20 0 x t t a c 0 0 0 0) (k := (a + 1 + t % c)) (x := x) ⟨.inr ⟨by simp, by simp⟩, by simp; omega, by simp⟩ (show (A.put 1 _).on = false from h.on) (show (A.put 1 _).log = [] from h.log) (by simp) (by simp) rfl (place_nat a c t hac hc1) (by rw [put_cells]; omega) (by rw [hv1 _ (by omega)]; exact he) (went_19b rfl (by simp)) ?_
    refine goCas (o := OpS.mk 0 most 20 0 x t t a c 0 0 0 0) (o1 := OpS.mk 0 most 21 4 x t t a c 0 0 0 0) (k := 0) (x := t) (v := ((t + 1 : Nat) : Int)) ⟨.inr ⟨by simp, by simp⟩, by simp; omega, by simp⟩ (show (A.put 1 _).on = false from h.on) (show (A.put 1 _).log = [] from h.log) (by simp) (by simp) (by rw [← e1]; rfl) wr0 (by rw [put_cells]; omega) (by rw [hv1 0 (by omega)]; exact h.top) rfl ?_
    refine goStore (o := OpS.mk 0 most 21 4 x t t a c 0 0 0 0) (o1 := OpS.ended 4 x) (k := 1) (v := ((t + 1 : Nat) : Int)) ⟨.inr ⟨by simp, by simp⟩, by simp; omega, by simp⟩ (show ((A.put 1 _).put 0 _).on = false from h.on) (show ((A.put 1 _).put 0 _).log = [] from h.log) (by simp) (by simp) (by rw [← e1]; rfl) wr1 (by rw [put_cells, put_cells]; omega) rfl (.done _ _)
  · have hv : ∀ j, (((A.put 1 t).put 0 ((t + 1 : Nat) : Int)).put 1 ((t + 1 : Nat) : Int)).val j = if j = 1 then ((t + 1 : Nat) : Int) else if j = 0 then ((t + 1 : Nat) : Int) else A.val j := fun j => by
      rw [put_val (by rw [put_cells, put_cells]; omega), put_val (by rw [put_cells]; omega), put_val (by omega)]
      by_cases hj : j = 1
      · rw [if_pos hj, if_pos hj]
      · rw [if_neg hj, if_neg hj, if_neg hj]
    exact ⟨h.on, h.log, hm1, by rw [hv, if_neg (by omega), if_pos rfl], by rw [hv, if_pos rfl]; simp, by rw [hv, if_neg (by omega), if_neg (by omega), h.buf], by rw [hv, if_neg (by omega), if_neg (by omega), h.cap], ha3, by rw [put_cells, put_cells, put_cells]; exact hfit, hc1, hcm, by simp, fun i hi => by simp at hi, by rw [put_cells, put_cells, put_cells]; exact h.room, h.sz, by simp; omega⟩
theorem pop_more {x : Int} (h : Dq A most (l ++ [x]) t a c) (hne : 0 < l.length) (hs : A.cells.length ≤ A.size) : ∃ A', Goes (OpS.mk 0 most 13 0 0 0 0 0 0 0 0 0 0) A 6 (OpS.ended 4 x) A' ∧ Dq A' most l t a c ∧ A'.cells.length = A.cells.length ∧ A'.size = A.size := by
  have h2 := h.lt2
  have hac := h.ac hs
  have hc1 := h.c1
  have hcm := h.cm
  have hm1 := h.m1
  have hbig := h.big
  have hlen := h.len
  have hfit := h.fit
  have ha3 := h.a3
  have hmod := Nat.mod_lt (t + l.length) (show 0 < c by omega)
  have he := h.elem l.length (by simp)
  simp [List.getD] at he
  simp at hbig hlen
  have eb : wrap64 (((t + (l ++ [x]).length : Nat) : Int) - 1) = ((t + l.length : Nat) : Int) := by rw [wrap64_in _ (by simp; omega)]; simp; omega
  refine ⟨A.put 1 ((t + l.length : Nat) : Int), ?_, ?_, put_cells, rfl⟩
  · have hv1 : ∀ j, ¬ j = 1 → (A.put 1 ((t + l.length : Nat) : Int)).val j = A.val j := fun j hj => by rw [put_val (by omega), if_neg hj]
    refine goLoad (o := OpS.mk 0 most 13 0 0 0 0 0 0 0 0 0 0) (o1 := OpS.mk 0 most 14 0 0 0 ((t + l.length : Nat) : Int) 0 0 0 0 0 0) (k := 1) ⟨.inr ⟨by simp, by simp⟩, by simp, by simp⟩ h.on h.log (by simp) (by simp) rfl wr1 (by omega) h.bot (by show OpS.mk _ _ _ _ _ _ (wrap64 _) _ _ _ _ _ _ = _; rw [eb]) ?_
    refine goLoad (o := OpS.mk 0 most 14 0 0 0 ((t + l.length : Nat) : Int) 0 0 0 0 0 0) (o1 := OpS.mk 0 most 15 0 0 0 ((t + l.length : Nat) : Int) a 0 0 0 0 0) (k := 2) ⟨.inr ⟨by simp, by simp⟩, by simp, by simp⟩ h.on h.log (by simp) (by simp) rfl wr2 (by omega) h.buf rfl ?_
    refine goStore (o := OpS.mk 0 most 15 0 0 0 ((t + l.length : Nat) : Int) a 0 0 0 0 0) (o1 := OpS.mk 0 most 16 0 0 0 ((t + l.length : Nat) : Int) a 0 0 0 0 0) (k := 1) (v := ((t + l.length : Nat) : Int)) ⟨.inr ⟨by simp, by simp⟩, by simp, by simp⟩ h.on h.log (by simp) (by simp) rfl wr1 (by omega) rfl ?_
    refine goLoad (o := OpS.mk 0 most 16 0 0 0 ((t + l.length : Nat) : Int) a 0 0 0 0 0) (o1 := OpS.mk 0 most 18 0 0 t ((t + l.length : Nat) : Int) a 0 0 0 0 0) (k := 0) (x := t) ⟨.inr ⟨by simp, by simp⟩, by simp, by simp⟩ (show (A.put 1 _).on = false from h.on) (show (A.put 1 _).log = [] from h.log) (by simp) (by simp) rfl wr0 (by rw [put_cells]; omega) (by rw [hv1 0 (by omega)]; exact h.top) (went_16b rfl (by simp; omega)) ?_
    refine goLoad (o := OpS.mk 0 most 18 0 0 t ((t + l.length : Nat) : Int) a 0 0 0 0 0) (o1 := OpS.mk 0 most 19 0 0 t ((t + l.length : Nat) : Int) a c 0 0 0 0) (k := a) (x := c) ⟨.inr ⟨by simp, by simp⟩, by simp, by simp⟩ (show (A.put 1 _).on = false from h.on) (show (A.put 1 _).log = [] from h.log) (by simp) (by simp) rfl rfl (by rw [put_cells]; omega) (by rw [hv1 a (by omega)]; exact h.cap) (flat_c (by simp; omega)) ?_
    refine goLoad (o := OpS.mk 0 most 19 0 0 t ((t + l.length : Nat) : Int) a c 0 0 0 0) (o1 := OpS.ended 4 x) (k := a + 1 + (t + l.length) % c) (x := x) ⟨.inr ⟨by simp, by simp⟩, by simp; omega, by simp⟩ (show (A.put 1 _).on = false from h.on) (show (A.put 1 _).log = [] from h.log) (by simp) (by simp) rfl (place_nat a c (t + l.length) hac hc1) (by rw [put_cells]; omega) (by rw [hv1 _ (by omega)]; exact he) (went_19a rfl (by simp; omega)) (.done _ _)
  · have hv1 : ∀ j, ¬ j = 1 → (A.put 1 ((t + l.length : Nat) : Int)).val j = A.val j := fun j hj => by rw [put_val (by omega), if_neg hj]
    refine ⟨h.on, h.log, hm1, by rw [hv1 0 (by omega), h.top], by rw [put_val (by omega), if_pos rfl], by rw [hv1 2 (by omega), h.buf], by rw [hv1 a (by omega), h.cap], ha3, by rw [put_cells]; exact hfit, hc1, hcm, by omega, fun i hi => ?_, by rw [put_cells]; exact h.room, h.sz, by omega⟩
    rw [hv1 _ (by omega)]
    have := h.elem i (by simp; omega)
    rw [this]
    simp [List.getD, List.getElem?_append, hi]
theorem push_full {v : Int} (h : Dq A most l t a c) (hl : l.length = most) (hs : A.cells.length ≤ A.size) : Goes (OpS.mk 0 most 2 0 v 0 0 0 0 0 0 0 0) A 4 (OpS.ended 3 0) A := by
  have h2 := h.lt2
  have hac := h.ac hs
  have hc1 := h.c1
  have hcm := h.cm
  have hm1 := h.m1
  have hbig := h.big
  have hlen := h.len
  have hfit := h.fit
  have ha3 := h.a3
  have ed : wrap64 (((t + l.length : Nat) : Int) - t) = l.length := by rw [wrap64_in _ (by omega)]; omega
  have em : measuredS (OpS.mk 0 most 5 0 v t ((t + l.length : Nat) : Int) a c 0 0 0 0) = OpS.ended 3 0 := by
    unfold measuredS
    simp only [ed]
    rw [if_neg (by omega), if_neg (by omega), if_pos (by omega)]
  refine goLoad (o := OpS.mk 0 most 2 0 v 0 0 0 0 0 0 0 0) (o1 := OpS.mk 0 most 3 0 v 0 ((t + l.length : Nat) : Int) 0 0 0 0 0 0) (k := 1) ⟨.inr ⟨by simp, by simp⟩, by simp, by simp⟩ h.on h.log (by simp) (by simp) rfl wr1 (by omega) h.bot rfl ?_
  refine goLoad (o := OpS.mk 0 most 3 0 v 0 ((t + l.length : Nat) : Int) 0 0 0 0 0 0) (o1 := OpS.mk 0 most 4 0 v t ((t + l.length : Nat) : Int) 0 0 0 0 0 0) (k := 0) ⟨.inr ⟨by simp, by simp⟩, by simp, by simp⟩ h.on h.log (by simp) (by simp) rfl wr0 (by omega) h.top rfl ?_
  refine goLoad (o := OpS.mk 0 most 4 0 v t ((t + l.length : Nat) : Int) 0 0 0 0 0 0) (o1 := OpS.mk 0 most 5 0 v t ((t + l.length : Nat) : Int) a 0 0 0 0 0) (k := 2) ⟨.inr ⟨by simp, by simp⟩, by simp, by simp⟩ h.on h.log (by simp) (by simp) rfl wr2 (by omega) h.buf rfl ?_
  exact goLoad (o := OpS.mk 0 most 5 0 v t ((t + l.length : Nat) : Int) a 0 0 0 0 0) (o1 := OpS.ended 3 0) (k := a) ⟨.inr ⟨by simp, by simp⟩, by simp, by simp⟩ h.on h.log (by simp) (by simp) rfl rfl (by omega) h.cap em (.done _ _)
theorem push_plain {v : Int} (h : Dq A most l t a c) (hl : l.length < c) (hb : t + l.length < 1125899906842624) (hs : A.cells.length ≤ A.size) : ∃ A', Goes (OpS.mk 0 most 2 0 v 0 0 0 0 0 0 0 0) A 6 (OpS.ended 2 0) A' ∧ Dq A' most (l ++ [v]) t a c ∧ A'.cells.length = A.cells.length ∧ A'.size = A.size := by
  have h2 := h.lt2
  have hac := h.ac hs
  have hc1 := h.c1
  have hcm := h.cm
  have hm1 := h.m1
  have hbig := h.big
  have hlen := h.len
  have hfit := h.fit
  have ha3 := h.a3
  have hmod := Nat.mod_lt (t + l.length) (show 0 < c by omega)
  have ed : wrap64 (((t + l.length : Nat) : Int) - t) = l.length := by rw [wrap64_in _ (by omega)]; omega
  have e1 : wrap64 (((t + l.length : Nat) : Int) + 1) = ((t + l.length + 1 : Nat) : Int) := by rw [wrap64_in _ (by omega)]; omega
  have em : measuredS (OpS.mk 0 most 5 0 v t ((t + l.length : Nat) : Int) a c 0 0 0 0) = OpS.mk 0 most 6 0 v t ((t + l.length : Nat) : Int) a c 0 0 0 0 := by
    unfold measuredS
    simp only [ed]
    rw [if_neg (by omega), if_pos (by omega)]
  refine ⟨(A.put (a + 1 + (t + l.length) % c) v).put 1 ((t + l.length + 1 : Nat) : Int), ?_, ?_, by rw [put_cells, put_cells], rfl⟩
  · skip
    refine goLoad (o := OpS.mk 0 most 2 0 v 0 0 0 0 0 0 0 0) (o1 := OpS.mk 0 most 3 0 v 0 ((t + l.length : Nat) : Int) 0 0 0 0 0 0) (k := 1) ⟨.inr ⟨by simp, by simp⟩, by simp, by simp⟩ h.on h.log (by simp) (by simp) rfl wr1 (by omega) h.bot rfl ?_
    refine goLoad (o := OpS.mk 0 most 3 0 v 0 ((t + l.length : Nat) : Int) 0 0 0 0 0 0) (o1 := OpS.mk 0 most 4 0 v t ((t + l.length : Nat) : Int) 0 0 0 0 0 0) (k := 0) ⟨.inr ⟨by simp, by simp⟩, by simp, by simp⟩ h.on h.log (by simp) (by simp) rfl wr0 (by omega) h.top rfl ?_
    refine goLoad (o := OpS.mk 0 most 4 0 v t ((t + l.length : Nat) : Int) 0 0 0 0 0 0) (o1 := OpS.mk 0 most 5 0 v t ((t + l.length : Nat) : Int) a 0 0 0 0 0) (k := 2) ⟨.inr ⟨by simp, by simp⟩, by simp, by simp⟩ h.on h.log (by simp) (by simp) rfl wr2 (by omega) h.buf rfl ?_
    refine goLoad (o := OpS.mk 0 most 5 0 v t ((t + l.length : Nat) : Int) a 0 0 0 0 0) (o1 := OpS.mk 0 most 6 0 v t ((t + l.length : Nat) : Int) a c 0 0 0 0) (k := a) ⟨.inr ⟨by simp, by simp⟩, by simp, by simp⟩ h.on h.log (by simp) (by simp) rfl rfl (by omega) h.cap em ?_
    refine goStore (o := OpS.mk 0 most 6 0 v t ((t + l.length : Nat) : Int) a c 0 0 0 0) (o1 := OpS.mk 0 most 7 0 v t ((t + l.length : Nat) : Int) a c 0 0 0 0) (k := (a + 1 + (t + l.length) % c)) (v := v) ⟨.inr ⟨by simp, by simp⟩, by simp; omega, by simp⟩ h.on h.log (by simp) (by simp) rfl (place_nat a c (t + l.length) hac hc1) (by omega) rfl ?_
    refine goStore (o := OpS.mk 0 most 7 0 v t ((t + l.length : Nat) : Int) a c 0 0 0 0) (o1 := OpS.ended 2 0) (k := 1) (v := ((t + l.length + 1 : Nat) : Int)) ⟨.inr ⟨by simp, by simp⟩, by simp; omega, by simp⟩ (show (A.put _ _).on = false from h.on) (show (A.put _ _).log = [] from h.log) (by simp) (by simp) (by rw [← e1]; rfl) wr1 (by rw [put_cells]; omega) rfl (.done _ _)
  · have hv : ∀ j, ((A.put (a + 1 + (t + l.length) % c) v).put 1 ((t + l.length + 1 : Nat) : Int)).val j = if j = 1 then ((t + l.length + 1 : Nat) : Int) else if j = a + 1 + (t + l.length) % c then v else A.val j := fun j => by
      rw [put_val (by rw [put_cells]; omega), put_val (by omega)]
    refine ⟨h.on, h.log, hm1, by rw [hv, if_neg (by omega), if_neg (by omega), h.top], by rw [hv, if_pos rfl]; simp; omega, by rw [hv, if_neg (by omega), if_neg (by omega), h.buf], by rw [hv, if_neg (by omega), if_neg (by omega), h.cap], ha3, by rw [put_cells, put_cells]; exact hfit, hc1, hcm, by simp; omega, fun i hi => ?_, by rw [put_cells, put_cells]; exact h.room, h.sz, by simp; omega⟩
    rw [hv, if_neg (by omega)]
    simp at hi
    by_cases hil : i = l.length
    · subst hil
      rw [if_pos rfl]
      simp [List.getD]
    · have hne := mod_ne (t := t) (i := i) (n := l.length) (c := c) (by omega) (by omega)
      rw [if_neg (by omega), h.elem i (by omega)]
      simp [List.getD, List.getElem?_append, show i < l.length by omega]
end
end Go.Proofs.Ytemmkgnbngeiaaa
