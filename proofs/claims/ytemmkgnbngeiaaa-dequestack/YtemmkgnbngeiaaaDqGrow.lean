import Derived.Test.YtemmkgnbngeiaaaDqCopy
/-! A push that grows: its first six accesses. -/
namespace Go.Proofs.Ytemmkgnbngeiaaa
open Go.RowKit Go.HeapKit Go.IntWalk Go.PlainOps

section
theorem grow_head {A : Ar} {most t a c c2 : Nat} {l : List Int} {v : Int} {n : Nat} {o2 : OpS} {A2 : Ar} (hon : A.on = false) (hlog : A.log = []) (top : A.val 0 = t) (bot : A.val 1 = (t + l.length : Nat)) (buf : A.val 2 = a) (cap : A.val a = c)
    (k0 : 0 < A.cells.length) (k1 : 1 < A.cells.length) (k2 : 2 < A.cells.length) (ka : a < A.cells.length) (kL : A.cells.length < (A.more (1 + c2)).cells.length) (hfit : A.cells.length + (1 + c2) ≤ A.size) (fc : (c : Int) ≤ 9223372036854775807) (fnc : (c2 : Int) ≤ 9223372036854775807)
    (em : measuredS (OpS.mk 0 most 5 0 v t ((t + l.length : Nat) : Int) a c 0 0 0 0) = OpS.mk 0 most 8 0 v t ((t + l.length : Nat) : Int) a c 0 c2 0 0) (e1c : wrap64 (1 + (c2 : Int)) = ((1 + c2 : Nat) : Int))
    (hg : Goes (OpS.mk 0 most 10 0 v t ((t + l.length : Nat) : Int) a c A.cells.length c2 t 0) ((A.more (1 + c2)).put A.cells.length c2) n o2 A2) : Goes (OpS.mk 0 most 2 0 v 0 0 0 0 0 0 0 0) A (n + 1 + 1 + 1 + 1 + 1 + 1) o2 A2 := by
  refine goLoad (o := OpS.mk 0 most 2 0 v 0 0 0 0 0 0 0 0) (o1 := OpS.mk 0 most 3 0 v 0 ((t + l.length : Nat) : Int) 0 0 0 0 0 0) (k := 1) ⟨.inr ⟨by simp, by simp⟩, by simp, by simp⟩ hon hlog (by simp) (by simp) rfl wr1 k1 bot rfl ?_
  refine goLoad (o := OpS.mk 0 most 3 0 v 0 ((t + l.length : Nat) : Int) 0 0 0 0 0 0) (o1 := OpS.mk 0 most 4 0 v t ((t + l.length : Nat) : Int) 0 0 0 0 0 0) (k := 0) ⟨.inr ⟨by simp, by simp⟩, by simp, by simp⟩ hon hlog (by simp) (by simp) rfl wr0 k0 top rfl ?_
  refine goLoad (o := OpS.mk 0 most 4 0 v t ((t + l.length : Nat) : Int) 0 0 0 0 0 0) (o1 := OpS.mk 0 most 5 0 v t ((t + l.length : Nat) : Int) a 0 0 0 0 0) (k := 2) ⟨.inr ⟨by simp, by simp⟩, by simp, by simp⟩ hon hlog (by simp) (by simp) rfl wr2 k2 buf rfl ?_
  refine goLoad (o := OpS.mk 0 most 5 0 v t ((t + l.length : Nat) : Int) a 0 0 0 0 0) (o1 := OpS.mk 0 most 8 0 v t ((t + l.length : Nat) : Int) a c 0 c2 0 0) (k := a) ⟨.inr ⟨by simp, by simp⟩, by simp, by simp⟩ hon hlog (by simp) (by simp) rfl rfl ka cap em ?_
  refine goMore (o := OpS.mk 0 most 8 0 v t ((t + l.length : Nat) : Int) a c 0 c2 0 0) (o1 := OpS.mk 0 most 9 0 v t ((t + l.length : Nat) : Int) a c A.cells.length c2 0 0) (k := 1 + c2) ⟨.inr ⟨by simp, by simp⟩, fc, fnc⟩ hon hlog (by simp) (by simp) rfl e1c (Nat.lt_of_lt_of_le Nat.zero_lt_one (Nat.le_add_right 1 c2)) hfit rfl ?_
  exact goStore (o := OpS.mk 0 most 9 0 v t ((t + l.length : Nat) : Int) a c A.cells.length c2 0 0) (o1 := OpS.mk 0 most 10 0 v t ((t + l.length : Nat) : Int) a c A.cells.length c2 t 0) (k := A.cells.length) (v := c2) ⟨.inr ⟨by simp, by simp⟩, fc, fnc⟩ (show (A.more _).on = false from hon) (show (A.more _).log = [] from hlog) (by simp) (by simp) rfl rfl kL rfl hg
theorem em_grow {most t a c c2 : Nat} {l : List Int} {v : Int} (hl : l.length = c) (hc1 : 1 ≤ c) (hcm2 : c < most) (hb : t + l.length < 1125899906842624) (Eg : grownV c most = (c2 : Int)) : measuredS (OpS.mk 0 most 5 0 v t ((t + l.length : Nat) : Int) a c 0 0 0 0) = OpS.mk 0 most 8 0 v t ((t + l.length : Nat) : Int) a c 0 c2 0 0 := by
  have ed : wrap64 (((t + l.length : Nat) : Int) - t) = l.length := by rw [wrap64_in _ (by clear Eg; omega)]; clear Eg; omega
  have n1 : ¬ (c : Int) < 1 := by clear Eg ed; omega
  have n2 : ¬ ((l.length : Nat) : Int) < (c : Int) := by clear Eg ed; omega
  have n3 : ¬ (most : Int) ≤ (c : Int) := by clear Eg ed; omega
  unfold measuredS
  simp only [ed]
  rw [if_neg n1, if_neg n2, if_neg n3, Eg]
theorem push_grow {A : Ar} {most t a c : Nat} {l : List Int} {v : Int} (h : Dq A most l t a c) (hl : l.length = c) (hcm2 : c < most) (hb : t + l.length < 1125899906842624) (hs : A.cells.length ≤ A.size) :
    ∃ A' a' c', Goes (OpS.mk 0 most 2 0 v 0 0 0 0 0 0 0 0) A (9 + 2 * l.length) (OpS.ended 2 0) A' ∧ Dq A' most (l ++ [v]) t a' c' ∧ A'.cells.length ≤ A'.size ∧ A'.size = A.size := by
  have hc1 := h.c1
  have hcm := h.cm
  have hm1 := h.m1
  have k2 := h.lt2
  have hfit := h.fit
  have ha3 := h.a3
  have fc : (c : Int) ≤ 9223372036854775807 := by omega
  have ka : a < A.cells.length := by omega
  have hL3 : 3 ≤ A.cells.length := by omega
  have hc4 : c ≤ 4096 := by omega
  obtain ⟨c2, hcc, hcx, Eg, hst⟩ : ∃ c2 : Nat, c < c2 ∧ c2 ≤ most ∧ grownV c most = (c2 : Int) ∧ cellsFrom most c2 (A.cells.length + 1 + c2) = A.size :=
    ⟨min (2 * c) most, Nat.lt_min.2 ⟨Nat.lt_of_lt_of_le (Nat.lt_add_of_pos_right hc1) (Nat.le_of_eq (Nat.two_mul c).symm), hcm2⟩, Nat.min_le_right _ _, grown_nat c most hc4, (cellsFrom_step (n := A.cells.length) hcm2 hc1).symm.trans h.room⟩
  have hLs : A.cells.length + 1 + c2 ≤ A.size := Nat.le_trans (le_cellsFrom most c2 (A.cells.length + 1 + c2)) (Nat.le_of_eq hst)
  have em := em_grow (a := a) (v := v) hl hc1 hcm2 hb Eg
  have hc24 : c2 ≤ 4096 := Nat.le_trans hcx hm1
  have fnc : (c2 : Int) ≤ 9223372036854775807 := by clear Eg hst em hLs; omega
  have e1c : wrap64 (1 + (c2 : Int)) = ((1 + c2 : Nat) : Int) := by
    clear Eg hst em hLs
    rw [wrap64_in _ (by omega)]
    omega
  have hfit2 : A.cells.length + (1 + c2) ≤ A.size := by rw [← Nat.add_assoc]; exact hLs
  have kL : A.cells.length < (A.more (1 + c2)).cells.length := by rw [more_len]; exact Nat.lt_add_of_pos_right (Nat.lt_of_lt_of_le Nat.zero_lt_one (Nat.le_add_right 1 c2))
  obtain ⟨An, mv', hg, hC⟩ := copy_loop (v := v) h hs rfl hcc hc24 (Nat.le_trans hLs h.sz) l.length 0 _ 0 (Nat.zero_add _) (by rw [hl]; exact hc1) (cp_start h.on h.log)
  have hend := grow_end (a := a) (c := c) (v := v) (mv' := mv') (most := most) hC.on hC.log hC.len hL3 (Nat.le_trans hc1 (Nat.le_of_lt hcc)) hc24 hc4 (Nat.le_trans hLs h.sz) hb
  refine ⟨_, _, _, ?_, grow_dq hC hm1 hL3 (by rw [hl]; exact hcc) hcx h.top hst h.sz hb, ?_, hC.size⟩
  · rw [show 9 + 2 * l.length = (3 + 2 * l.length) + 1 + 1 + 1 + 1 + 1 + 1 from Nat.add_right_comm 3 6 _]
    exact grow_head h.on h.log h.top h.bot h.buf h.cap (Nat.lt_of_lt_of_le (by decide) hL3) (Nat.lt_of_lt_of_le (by decide) hL3) k2 ka kL hfit2 fc fnc em e1c (hg.trans hend)
  · rw [put_cells, put_cells, put_cells, hC.len]
    rw [show (((An.put 2 A.cells.length).put (A.cells.length + 1 + (t + l.length) % c2) v).put 1 ((t + l.length + 1 : Nat) : Int)).size = An.size from rfl, hC.size]
    exact hLs
end
end Go.Proofs.Ytemmkgnbngeiaaa
