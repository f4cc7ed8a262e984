import Derived.Test.YtfccnmgbdkideaaDoorSwValid
import Derived.Test.YtfccnmgbdkideaaDoorSqPlain
/-! A task's run is the run of its function as the entry of the swapped program. -/
namespace Go.Proofs.YtfccnmgbdkideaaDoor
set_option linter.unusedVariables false
set_option maxRecDepth 20000
open Go.RowKit Go.PlainOps

structure SimT (l : List Fn) (F : Nat) (t t' : Tk) : Prop where
  regs : t'.regs = t.regs
  slots : t'.slots = t.slots
  func : t'.node.func = rho F t.node.func
  fun0 : 0 ≤ t.node.func ∧ t.node.func < l.length
  dep : t'.depth ≤ t.depth
theorem SimT.pay {l : List Fn} {F : Nat} {t t' : Tk} (h : SimT l F t t') : SimT l F (payT t) (payT t') := ⟨h.regs, h.slots, h.func, h.fun0, h.dep⟩
theorem SimT.wait {l : List Fn} {F : Nat} {t t' : Tk} (h : SimT l F t t') : SimT l F (waitT t) (waitT t') := ⟨h.regs, h.slots, h.func, h.fun0, h.dep⟩
theorem SimT.got {l : List Fn} {F : Nat} {t t' : Tk} (h : SimT l F t t') (a : Nat) (v sp sp' : Int) : SimT l F (gotT (spawnT t) a v sp) (gotT (spawnT t') a v sp') :=
  ⟨h.regs, by show t'.slots.set a v = t.slots.set a v; rw [h.slots], h.func, h.fun0, h.dep⟩
theorem SimT.setR {l : List Fn} {F : Nat} {t t' : Tk} (h : SimT l F t t') (a : Nat) (x : Int) : SimT l F (setR t a x) (setR t' a x) :=
  ⟨by show t'.regs.set a x = t.regs.set a x; rw [h.regs], h.slots, h.func, h.fun0, h.dep⟩
theorem SimT.comp {l : List Fn} {F : Nat} {t t' : Tk} (h : SimT l F t t') {i : Ins} (h8 : i.kind ≠ 8) : SimT l F (computeT t i) (computeT t' i) := by
  unfold computeT
  rw [h.regs, h.slots]
  repeat' split
  all_goals first
    | exact h.setR _ _
    | (exfalso; exact h8 (by assumption))
    | exact h
theorem SimT.child {l : List Fn} {F : Nat} (hF : F < l.length) {t t' : Tk} (h : SimT l F t t') {i : Ins} (h5 : i.kind = 5) (hb : 0 ≤ i.b ∧ i.b < l.length) : SimT l F (childV l t i) (childV (swapL l F) t' (insR F i)) := by
  refine ⟨?_, rfl, ?_, hb, ?_⟩
  · show argsV t'.regs (insR F i).c.toNat (parV (swapL l F) (insR F i).b).toNat = argsV t.regs i.c.toNat (parV l i.b).toNat
    rw [h.regs, insR_c, insR_b5 h5, par_swap hF hb.1]
  · show (insR F i).b = rho F i.b
    exact insR_b5 h5
  · show t'.depth + 1 ≤ t.depth + 1
    have := h.dep
    omega
theorem SimT.enter {l : List Fn} {F : Nat} {t t' : Tk} (h : SimT l F t t') (s s' : Rn) : SimT l F (enterT s t) (enterT s' t') := ⟨h.regs, h.slots, h.func, h.fun0, h.dep⟩
def noPed (l : List Fn) : Prop := ∀ f ∈ l, ∀ i ∈ f.code, i.kind ≠ 8
theorem loop_sim {l : List Fn} {F : Nat} (hF : F < l.length) (hA : AllV l) (hp : noPed l) : ∀ (g : Nat) (s : Rn) (t : Tk) (at_ : Nat) (v sp : Int) (s2 : Rn), loopV l true g s t at_ = .done v sp s2 → ∀ (e d : Nat) (s' : Rn) (t' : Tk), s'.fuel = s.fuel + d → SimT l F t t' →
    ∃ sp' s2', loopV (swapL l F) false (g + e) s' t' at_ = .done v sp' s2' ∧ s2'.fuel = s2.fuel + d ∧ s2'.tasks + s.tasks = s2.tasks + s'.tasks
  | 0, s, t, at_, v, sp, s2, h, e, d, s', t', hf, hS => by simp [loopV] at h
  | g + 1, s, t, at_, v, sp, s2, h, e, d, s', t', hf, hS => by
    by_cases h0 : s.fuel = 0
    · rw [loop_out h0] at h; cases h
    · have h0' : s'.fuel ≠ 0 := by omega
      have hpf : (payS s').fuel = (payS s).fuel + d := by simp [payS]; omega
      obtain ⟨f, hfl, hfm, hcf, hV, hok⟩ := hA.fn hS.fun0
      have hcs : (codeOf (swapL l F) t'.node.func) = f.code.map (insR F) := by rw [hS.func, code_swap hF hS.fun0.1, hcf]
      cases hi : f.code[at_]? with
      | none =>
        have hic : (codeOf l t.node.func)[at_]? = none := by rw [hcf]; exact hi
        exfalso
        unfold loopV at h
        rw [if_neg h0, hic] at h
        cases h
      | some i =>
        have hic : (codeOf l t.node.func)[at_]? = some i := by rw [hcf]; exact hi
        have hic' : (codeOf (swapL l F) t'.node.func)[at_]? = some (insR F i) := by rw [hcs, List.getElem?_map, hi]; rfl
        have so := step_ok hV hi
        have h8 := hp f hfm i (List.mem_of_getElem? hi)
        have eg : g + 1 + e = (g + e) + 1 := by omega
        rw [eg]
        have hcases : i.kind = 3 ∨ i.kind = 4 ∨ i.kind = 5 ∨ i.kind = 6 ∨ i.kind = 9 ∨ (i.kind = 0 ∨ i.kind = 1 ∨ i.kind = 2 ∨ i.kind = 7 ∨ i.kind = 8) := by have := so.kind; omega
        rcases hcases with hk | hk | hk | hk | hk | hk
        · rw [loop_jump h0 hic hk] at h
          rw [loop_jump h0' hic' (by rw [insR_kind]; exact hk), insR_a]
          exact loop_sim hF hA hp g _ _ _ v sp s2 h e d _ _ hpf hS.pay
        · rw [loop_branch h0 hic hk] at h
          rw [loop_branch h0' hic' (by rw [insR_kind]; exact hk), insR_a, insR_b (by omega), hS.regs]
          exact loop_sim hF hA hp g _ _ _ v sp s2 h e d _ _ hpf hS.pay
        · rw [loop_spawn h0 hic hk] at h
          rw [loop_spawn h0' hic' (by rw [insR_kind]; exact hk), insR_a]
          have hc := hS.pay.child hF hk (so.fn hk)
          cases hpl : playV l true g (payS s) (childV l (payT t) i) with
          | gave x => rw [hpl] at h; cases h
          | done v1 sp1 s1 =>
            rw [hpl] at h
            simp only at h
            unfold playV at hpl ⊢
            by_cases hd : 4096 < (childV l (payT t) i).depth
            · rw [if_pos hd] at hpl; cases hpl
            · rw [if_neg hd] at hpl
              rw [if_neg (by have := hc.dep; omega)]
              obtain ⟨sp1', s1', q1, q2, q3⟩ := loop_sim hF hA hp g _ _ 0 v1 sp1 s1 hpl e d (enterS false (payS s') (childV (swapL l F) (payT t') (insR F i))) (enterT (payS s') (childV (swapL l F) (payT t') (insR F i))) hpf (hc.enter _ _)
              rw [q1]
              simp only
              obtain ⟨sp2', s2', r1, r2, r3⟩ := loop_sim hF hA hp g s1 _ _ v sp s2 h e d s1' _ q2 (hS.pay.got i.a.toNat v1 sp1 sp1')
              refine ⟨sp2', s2', r1, r2, ?_⟩
              have q4 : s1'.tasks + (s.tasks + 1) = s1.tasks + (s'.tasks + 1) := q3
              omega
        · rw [loop_sync h0 hic hk] at h
          rw [loop_sync h0' hic' (by rw [insR_kind]; exact hk)]
          exact loop_sim hF hA hp g _ _ _ v sp s2 h e d _ _ hpf hS.pay.wait
        · rw [loop_ret h0 hic hk] at h
          rw [loop_ret h0' hic' (by rw [insR_kind]; exact hk), insR_a, hS.regs]
          injection h with e1 e2 e3
          subst e3
          refine ⟨t'.span + 1, leaveS false (payS s') (endT (payT t') v), by rw [e1], hpf, ?_⟩
          show s'.tasks + s.tasks = s.tasks + s'.tasks
          omega
        · have ei : insR F i = i := by unfold insR; rw [if_neg (by omega)]
          rw [ei] at hic'
          rw [loop_comp h0 hic hk] at h
          rw [loop_comp h0' hic' hk]
          exact loop_sim hF hA hp g _ _ _ v sp s2 h e d _ _ hpf (hS.pay.comp h8)
end Go.Proofs.YtfccnmgbdkideaaDoor
