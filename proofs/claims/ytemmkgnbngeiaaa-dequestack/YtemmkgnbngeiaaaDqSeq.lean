import Derived.Test.YtemmkgnbngeiaaaDqPure
/-! The deque's state between calls; a push that does not grow, a pop, a steal, a look. -/
namespace Go.Proofs.Ytemmkgnbngeiaaa
open Go.RowKit Go.HeapKit Go.IntWalk Go.PlainOps

structure Dq (A : Ar) (most : Nat) (l : List Int) (t a c : Nat) : Prop where
  on : A.on = false
  log : A.log = []
  m1 : most ≤ 4096
  top : A.val 0 = t
  bot : A.val 1 = (t + l.length : Nat)
  buf : A.val 2 = a
  cap : A.val a = c
  a3 : 3 ≤ a
  fit : a + c < A.cells.length
  c1 : 1 ≤ c
  cm : c ≤ most
  len : l.length ≤ c
  elem : ∀ i, i < l.length → A.val (a + 1 + (t + i) % c) = l.getD i 0
  room : cellsFrom most c A.cells.length = A.size
  sz : A.size ≤ 1048576
  big : t + l.length ≤ 1125899906842624

theorem put_val {A : Ar} {k j : Nat} {v : Int} (hk : k < A.cells.length) : (A.put k v).val j = if j = k then v else A.val j := by
  unfold Ar.put Ar.val
  simp only [List.getD, List.getElem?_set]
  by_cases h : k = j
  · subst h; simp [hk]
  · rw [if_neg h, if_neg (fun e => h e.symm)]
theorem put_cells {A : Ar} {k : Nat} {v : Int} : (A.put k v).cells.length = A.cells.length := by simp [Ar.put]
theorem more_val {A : Ar} {n j : Nat} : (A.more n).val j = A.val j := by
  unfold Ar.more Ar.val
  simp only [List.getD, List.getElem?_append, List.getElem?_replicate]
  split
  · rfl
  · rename_i h
    rw [List.getElem?_eq_none (by omega)]
    split <;> rfl
theorem place_nat (a c i : Nat) (h : a + c ≤ 1048576) (hc : 1 ≤ c) : placeV a c i = ((a + 1 + i % c : Nat) : Int) := by
  have hm := Nat.mod_lt i (show 0 < c by omega)
  have e1 : modV (i : Int) (c : Int) = ((i % c : Nat) : Int) := by
    unfold modV
    rw [if_neg (by omega)]
    simp
  unfold placeV
  rw [e1, wrap64_in (a + 1 : Int) (by omega), wrap64_in _ (by omega)]
  omega
theorem mod_ne {t i n c : Nat} (h : i < n) (hn : n < i + c) : (t + i) % c ≠ (t + n) % c := by
  intro e
  have h1 := Nat.sub_mod_eq_zero_of_mod_eq e.symm
  rw [show t + n - (t + i) = n - i by omega, Nat.mod_eq_of_lt (by omega)] at h1
  omega

theorem wr0 : wrap64 0 = ((0 : Nat) : Int) := (wrap64_in 0 (by omega)).trans rfl
theorem wr1 : wrap64 (0 + 1) = ((1 : Nat) : Int) := (wrap64_in _ (by omega)).trans rfl
theorem wr2 : wrap64 (0 + 2) = ((2 : Nat) : Int) := (wrap64_in _ (by omega)).trans rfl
theorem goLoad {o o1 o2 : OpS} {A A2 : Ar} {n k : Nat} {x y : Int} (hf : o.Fit) (hon : A.on = false) (hl : A.log = []) (h0 : ¬ o.at_ = 0) (h1 : ¬ o.at_ = 1) (hw : o.want = (0, y, 0, 0)) (hy : y = k) (hk : k < A.cells.length) (hx : A.val k = x) (ho : o.went x true = o1) (h : Goes o1 A n o2 A2) : Goes o A (n + 1) o2 A2 := by
  subst hy
  refine .next hf (by simp [hl]) ?_ h
  rw [step_by h0 h1 hw (did_load hon hk), hx, ho]
theorem goStore {o o1 o2 : OpS} {A A2 : Ar} {n k : Nat} {v y : Int} (hf : o.Fit) (hon : A.on = false) (hl : A.log = []) (h0 : ¬ o.at_ = 0) (h1 : ¬ o.at_ = 1) (hw : o.want = (1, y, v, 0)) (hy : y = k) (hk : k < A.cells.length) (ho : o.went 0 true = o1) (h : Goes o1 (A.put k v) n o2 A2) : Goes o A (n + 1) o2 A2 := by
  subst hy
  refine .next hf (by simp [hl]) ?_ h
  rw [step_by h0 h1 hw (did_store hon hk), ho]
theorem goCas {o o1 o2 : OpS} {A A2 : Ar} {n k : Nat} {x v y : Int} (hf : o.Fit) (hon : A.on = false) (hl : A.log = []) (h0 : ¬ o.at_ = 0) (h1 : ¬ o.at_ = 1) (hw : o.want = (2, y, x, v)) (hy : y = k) (hk : k < A.cells.length) (hx : A.val k = x) (ho : o.went 0 true = o1) (h : Goes o1 (A.put k v) n o2 A2) : Goes o A (n + 1) o2 A2 := by
  subst hy hx
  refine .next hf (by simp [hl]) ?_ h
  rw [step_by h0 h1 hw (did_cas hon hk), ho]
theorem ended_fit (code v : Int) : (OpS.ended code v).Fit := ⟨.inr ⟨by simp [OpS.ended], by simp [OpS.ended]⟩, by simp [OpS.ended], by simp [OpS.ended]⟩
section
variable {A : Ar} {most t a c : Nat} {l : List Int}
theorem Dq.lt2 (h : Dq A most l t a c) : 2 < A.cells.length := by have := h.a3; have := h.fit; omega
theorem Dq.ac (h : Dq A most l t a c) (hs : A.cells.length ≤ A.size) : a + c ≤ 1048576 := by have := h.fit; have := h.sz; omega
theorem look_seq (h : Dq A most l t a c) : Goes (OpS.mk 0 most 28 0 0 0 0 0 0 0 0 0 0) A 2 (OpS.ended (if l = [] then 8 else 7) 0) A := by
  have h2 := h.lt2
  refine goLoad (o := OpS.mk 0 most 28 0 0 0 0 0 0 0 0 0 0) (o1 := OpS.mk 0 most 29 0 0 t 0 0 0 0 0 0 0) (k := 0) ⟨.inr ⟨by simp, by simp⟩, by simp, by simp⟩ h.on h.log (by simp) (by simp) rfl wr0 (by omega) h.top rfl ?_
  refine goLoad (o := OpS.mk 0 most 29 0 0 t 0 0 0 0 0 0 0) (k := 1) ⟨.inr ⟨by simp, by simp⟩, by simp, by simp⟩ h.on h.log (by simp) (by simp) rfl wr1 (by omega) h.bot ?_ (.done _ _)
  show (if (t : Int) < ((t + l.length : Nat) : Int) then OpS.ended 7 0 else OpS.ended 8 0) = _
  match l with
  | [] => simp
  | x :: l => rw [if_pos (by simp; omega), if_neg (by simp)]
theorem steal_none (h : Dq A most [] t a c) : Goes (OpS.mk 0 most 22 0 0 0 0 0 0 0 0 0 0) A 2 (OpS.ended 5 0) A := by
  have h2 := h.lt2
  refine goLoad (o := OpS.mk 0 most 22 0 0 0 0 0 0 0 0 0 0) (o1 := OpS.mk 0 most 23 0 0 t 0 0 0 0 0 0 0) (k := 0) ⟨.inr ⟨by simp, by simp⟩, by simp, by simp⟩ h.on h.log (by simp) (by simp) rfl wr0 (by omega) h.top rfl ?_
  refine goLoad (o := OpS.mk 0 most 23 0 0 t 0 0 0 0 0 0 0) (k := 1) ⟨.inr ⟨by simp, by simp⟩, by simp, by simp⟩ h.on h.log (by simp) (by simp) rfl wr1 (by omega) h.bot ?_ (.done _ _)
  show (if ((t + ([] : List Int).length : Nat) : Int) ≤ (t : Int) then OpS.ended 5 0 else _) = _
  exact if_pos (by simp)
end
end Go.Proofs.Ytemmkgnbngeiaaa
