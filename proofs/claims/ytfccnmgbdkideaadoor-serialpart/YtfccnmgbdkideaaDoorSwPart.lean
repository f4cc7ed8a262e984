import Derived.Test.YtfccnmgbdkideaaDoorSwSim
import Derived.Test.YtfccnmgbdkideaaDoorSrFuel
/-! What a task's part of the tree comes to as the entry. -/
namespace Go.Proofs.YtfccnmgbdkideaaDoor
set_option linter.unusedVariables false
set_option maxRecDepth 20000
open Go.RowKit Go.PlainOps

theorem Grows.func {fs : List Fn} (hA : AllV fs) {K : List Ky} {D : List Int} (h : Grows fs K D) : ∀ (i : Nat) (x : Ky), K[i]? = some x → 0 ≤ x.func ∧ x.func < fs.length := by
  induction h with
  | one => intro i x hx; cases i with
    | zero => simp at hx; subst hx; have := hA.len; exact ⟨Int.le_refl _, by show (0 : Int) < _; omega⟩
    | succ i => simp at hx
  | @more K D x d p y hg hn ih =>
    intro i z hz
    by_cases hi : i < K.length
    · rw [List.getElem?_append_left hi] at hz
      exact ih i z hz
    · rw [List.getElem?_append_right (by omega)] at hz
      have hi2 : i - K.length = 0 := by
        have := (List.getElem?_eq_some_iff.1 hz).1
        simp at this
        omega
      rw [hi2] at hz
      simp at hz
      subst hz
      obtain ⟨ins, hm, h5, hb⟩ := hn.spw
      obtain ⟨f, hf, _, hc, hV, _⟩ := hA.fn (ih p y hn.at_)
      rw [hc] at hm
      obtain ⟨j, hj, e⟩ := List.getElem_of_mem hm
      have so := step_ok hV (at_ := j) (i := ins) (by rw [List.getElem?_eq_getElem hj, e])
      rw [← hb]
      exact so.fn h5
/-- The nodes' numbers are numbers. -/
theorem loop_args {fs : List Fn} (hA : AllV fs) : ∀ (g : Nat) (s : Rn) (t : Tk) (at_ : Nat), s.In true → t.In fs s.fuel → at_ < (codeOf fs t.node.func).length → ∀ v sp s', loopV fs true g s t at_ = .done v sp s' → (∀ y ∈ s.nodes, okI y.arg) → okI t.node.arg → ∀ y ∈ s'.nodes, okI y.arg
  | 0, s, t, at_, hs, ht, hat, v, sp, s', h => by simp [loopV] at h
  | g + 1, s, t, at_, hs, ht, hat, v, sp, s', h => by
    intro hn ha
    by_cases h0 : s.fuel = 0
    · rw [loop_out h0] at h; cases h
    · obtain ⟨m, hm⟩ : ∃ m, s.fuel = m + 1 := ⟨s.fuel - 1, by omega⟩
      have hpf : (payS s).fuel = m := by simp [payS, hm]
      obtain ⟨f, hf, _, hcf, hV, hok⟩ := hA.fn ht.func
      have hat' := hat
      rw [hcf] at hat'
      obtain ⟨i, hi⟩ : ∃ i, f.code[at_]? = some i := ⟨f.code[at_]'hat', by simp⟩
      have hic : (codeOf fs t.node.func)[at_]? = some i := by rw [hcf]; exact hi
      have so := step_ok hV hi
      have hik := (hok.code i (List.mem_of_getElem? hi)).k
      have ht' := ht
      rw [hm] at ht'
      have hnl : i.kind ≠ 3 → i.kind ≠ 9 → at_ + 1 < (codeOf fs t.node.func).length := fun h3 h9 => by rw [hcf]; exact so.next h3 h9
      have hcases : i.kind = 3 ∨ i.kind = 4 ∨ i.kind = 5 ∨ i.kind = 6 ∨ i.kind = 9 ∨ (i.kind = 0 ∨ i.kind = 1 ∨ i.kind = 2 ∨ i.kind = 7 ∨ i.kind = 8) := by have := so.kind; omega
      rcases hcases with hk | hk | hk | hk | hk | hk
      · rw [loop_jump h0 hic hk] at h
        exact loop_args hA g _ _ _ hs.pay (by rw [hpf]; exact ht'.pay) (by show _ < (codeOf fs t.node.func).length; rw [hcf]; have := so.jump hk; omega) v sp s' h hn ha
      · rw [loop_branch h0 hic hk] at h
        exact loop_args hA g _ _ _ hs.pay (by rw [hpf]; exact ht'.pay) (by show _ < (codeOf fs t.node.func).length; have := hnl (by omega) (by omega); rw [hcf] at this ⊢; have := so.branch hk; split <;> omega) v sp s' h hn ha
      · rw [loop_spawn h0 hic hk] at h
        have hBg := child_begins hs ht h0 so hk
        cases hp : playV fs true g (payS s) (childV fs (payT t) i) with
        | gave e' => rw [hp] at h; cases h
        | done v1 sp1 s2 =>
          rw [hp] at h
          obtain ⟨d1, d2, d3, d4, d5, d6⟩ := child_done hA hBg rfl hp
          have hn2 : ∀ y ∈ s2.nodes, okI y.arg := by
            unfold playV at hp
            by_cases hd : 4096 < (childV fs (payT t) i).depth
            · rw [if_pos hd] at hp; cases hp
            · rw [if_neg hd] at hp
              have hti := hBg.tin hd
              obtain ⟨f2, _, _, hc2, hV2, _⟩ := hA.fn hti.func
              have hao : okI (enterT (payS s) (childV fs (payT t) i)).node.arg := getD_ok hti.okr 0
              refine loop_args hA g _ _ 0 (hBg.sin hd) hti (by rw [hc2]; have := (valid_bounds hV2).2.2.2; omega) v1 sp1 s2 hp (fun y hy => ?_) hao
              have hy2 : y ∈ s.nodes ++ [(enterT (payS s) (childV fs (payT t) i)).node] := hy
              rcases List.mem_append.1 hy2 with h1 | h1
              · exact hn y h1
              · simp at h1; rw [h1]; exact hao
          exact loop_args hA g _ _ _ d5 (ht'.got d1 d2 (by omega)) (by show _ < (codeOf fs t.node.func).length; exact hnl (by omega) (by omega)) v sp s' h hn2 ha
      · rw [loop_sync h0 hic hk] at h
        exact loop_args hA g _ _ _ hs.pay (by rw [hpf]; exact ht'.wait) (by show _ < (codeOf fs t.node.func).length; exact hnl (by omega) (by omega)) v sp s' h hn ha
      · rw [loop_ret h0 hic hk] at h
        injection h with e1 e2 e3
        subst e3
        intro y hy
        have hy2 : y ∈ s.nodes.set t.number.toNat (endT (payT t) (t.regs.getD i.a.toNat 0)).node := hy
        rcases List.mem_or_eq_of_mem_set hy2 with h1 | h1
        · exact hn y h1
        · rw [h1]; exact ha
      · rw [loop_comp h0 hic hk] at h
        have en : (computeT (payT t) i).node = (payT t).node := by
          unfold computeT setR
          repeat' split
          all_goals rfl
        exact loop_args hA g _ _ _ hs.pay (by rw [hpf]; exact ht'.pay.compute i hik) (by rw [en]; show _ < (codeOf fs t.node.func).length; exact hnl (by omega) (by omega)) v sp s' h hn (by rw [en]; exact ha)
def argOf (l : List Fn) (x : Nd) : List Int := if parV l x.func = 1 then [x.arg] else []
theorem args_none (R : List Int) (k : Nat) : argsV R k 0 = argsV [] 0 0 := by simp [argsV]
theorem args_lone (R : List Int) (k : Nat) : argsV R k 1 = argsV [(argsV R k 1).getD 0 0] 0 1 := by
  have e : (argsV R k 1).getD 0 0 = R.getD k 0 := by simp [argsV, List.getD]
  rw [e]
  unfold argsV
  apply List.map_congr_left
  intro j _
  by_cases hj : j < 1
  · have : j = 0 := by omega
    subst this
    simp
  · simp [hj]
theorem rho_self (F : Nat) : rho F (F : Int) = 0 := by
  unfold rho
  by_cases h : (F : Int) = 0
  · rw [if_pos h, h]
  · rw [if_neg h, if_pos rfl]
/-- From the part of a list to what Eval tells of the swapped program. -/
structure PartOk (l : List Fn) (L : List Nd) (j e : Nat) (x : Nd) (N : Nat) : Prop where
  lt : j < e
  le : e ≤ L.length
  low : ∀ q y, j < q → q < e → L[q]? = some y → (j : Int) ≤ y.parent
  next : ∀ y, L[e]? = some y → y.parent < (j : Int)
  ev : ∃ dp sp, evalV (swapL l x.func.toNat) (argOf l x) (N : Int) = (⟨x.v, sumW ((L.drop j).take (e - j)), ((e - j : Nat) : Int), dp, sp⟩, 0)
theorem sub_eval {l : List Fn} (hA : AllV l) (hcz : checkV l = (0, 0, 0)) (hok : ∀ f ∈ l, f.Ok) (hp : noPed l) {B j : Nat} {L : List Nd} (h : Sub l B L j) {N : Nat} (hB : B ≤ N) (hN : N ≤ 4194304) {x : Nd} (hx : L[j]? = some x) (hf : 0 ≤ x.func ∧ x.func < l.length) (hpar : parV l x.func = 0 ∨ parV l x.func = 1) (hxa : okI x.arg) : ∃ e, PartOk l L j e x N := by
  obtain ⟨g, s0, c, v, sp, s2, h⟩ := h
  obtain ⟨y, y1, y2, y3, y4⟩ := h.node
  have hxy : y = x := by
    have := h.same j (Nat.le_refl _) h.lt
    rw [hx, y1] at this
    exact (Option.some.inj this).symm
  subst hxy
  obtain ⟨F, hF⟩ := Int.eq_ofNat_of_zero_le hf.1
  have hFl : F < l.length := by omega
  have hFn : y.func.toNat = F := by omega
  have hcs := check_swap hFl hcz
  have hA2 : AllV (swapL l F) := allV_of hcs (ok_swap hFl (by have := hA.len; omega) hok)
  have hpz : parV (swapL l F) 0 = parV l y.func := by
    have h1 := par_swap hFl (b := (F : Int)) (by omega)
    rw [rho_self] at h1
    rw [h1, hF]
  have hal : ((argOf l y).length : Int) = parV (swapL l F) 0 := by
    rw [hpz]
    unfold argOf
    rcases hpar with e | e
    · rw [if_neg (by omega), e]; rfl
    · rw [if_pos e, e]; rfl
  have hz : ∀ z ∈ argOf l y, okI z := fun z hz => by
    unfold argOf at hz
    split at hz
    · simp at hz; rw [hz]; exact hxa
    · simp at hz
  have hBg := root_begins hA2 false hz N hN
  have hd1 : ¬ 4096 < (rootT (argOf l y)).depth := by show ¬ (4096 : Int) < 1; decide
  obtain ⟨R, k, hregs⟩ := h.regs
  have hS : SimT l F (enterT s0 c) (enterT (startS N) (rootT (argOf l y))) := by
    refine ⟨?_, h.slots.symm, ?_, ?_, ?_⟩
    · show argsV (argOf l y) 0 (argOf l y).length = c.regs
      rw [hregs, ← y3]
      unfold argOf
      rcases hpar with e | e
      · rw [if_neg (by omega), e]
        exact (args_none R k).symm
      · rw [if_pos e, e]
        have e2 : y.arg = (argsV R k 1).getD 0 0 := by rw [y4, hregs, ← y3, e]; rfl
        rw [e2]
        exact (args_lone R k).symm
    · show (0 : Int) = rho F c.node.func
      rw [← y3, hF, rho_self]
    · show 0 ≤ c.node.func ∧ c.node.func < l.length
      rw [← y3]; exact hf
    · show (1 : Int) ≤ c.depth
      exact h.dep.1
  have hfu := h.fuel
  obtain ⟨sp', s2', q1, q2, q3⟩ := loop_sim hFl hA hp g _ _ 0 v sp s2 h.run 0 (N - s0.fuel) (enterS false (startS N) (rootT (argOf l y))) _ (by show N = s0.fuel + (N - s0.fuel); omega) hS
  obtain ⟨f2, _, _, hc2, hV2, _⟩ := hA2.fn (hBg.tin hd1).func
  have hsum := h.sum
  have hw0 : 0 ≤ sumW (s2.nodes.drop j) ∨ True := .inr trivial
  have hle : s2'.fuel ≤ N := by
    have := (loop_in hA2 false _ _ _ 0 (hBg.sin hd1) (hBg.tin hd1) (by rw [hc2]; have := (valid_bounds hV2).2.2.2; omega) v sp' s2' q1).fuel
    exact this
  have hsh := loop_shift hA2 false _ _ _ 0 (hBg.sin hd1) (hBg.tin hd1) (by rw [hc2]; have := (valid_bounds hV2).2.2.2; omega) v sp' s2' q1 (N + 1) N (by omega) (by show N - s2'.fuel ≤ N; omega)
  have hrun : runV (swapL l F) false (argOf l y) N = .done v sp' (s2'.at (N - (N - s2'.fuel))) := by
    unfold runV playV
    rw [if_neg hd1]
    exact hsh
  have href : refusedV (swapL l F) (argOf l y) (N : Int) = 0 := by
    unfold refusedV
    rw [hcs]
    rw [if_neg (by simp), if_neg (by rw [hal]; simp), if_neg (by omega)]
  refine ⟨s2.tasks, ⟨h.lt, h.le, h.low, h.next, ⟨s2'.depth, sp', ?_⟩⟩⟩
  have e1 : evalV (swapL l F) (argOf l y) (N : Int) = (match runV (swapL l F) false (argOf l y) N with
    | .gave e => (zeroVal, e)
    | .done v sp s => (⟨v, (N : Int) - s.fuel, s.tasks, s.depth, sp⟩, 0)) := by
    unfold evalV
    rw [if_neg (by simpa using href)]
    rfl
  rw [hFn, e1, hrun]
  simp only
  have e2 : (L.drop j).take (s2.tasks - j) = s2.nodes.drop j := by
    apply List.ext_getElem?
    intro q
    rw [List.getElem?_take]
    by_cases hq : q < s2.tasks - j
    · rw [if_pos hq, List.getElem?_drop, List.getElem?_drop]
      exact h.same (j + q) (by omega) (by omega)
    · rw [if_neg hq, List.getElem?_drop, List.getElem?_eq_none (by have := h.len; omega)]
  have e3 : (enterS false (startS N) (rootT (argOf l y))).tasks = 1 := rfl
  have e4 : (enterS true s0 c).tasks = j + 1 := by show s0.tasks + 1 = _; rw [h.tasks]
  rw [e3, e4] at q3
  have hlt := h.lt
  have e5 : (s2'.at (N - (N - s2'.fuel))).fuel = s2'.fuel := by show N - (N - s2'.fuel) = s2'.fuel; omega
  have e6 : (s2'.at (N - (N - s2'.fuel))).tasks = s2'.tasks := rfl
  have e7 : (s2'.at (N - (N - s2'.fuel))).depth = s2'.depth := rfl
  rw [e2, e5, e6, e7, y2]
  have e8 : (N : Int) - (s2'.fuel : Int) = sumW (s2.nodes.drop j) := by omega
  have e9 : (s2'.tasks : Int) = ((s2.tasks - j : Nat) : Int) := by omega
  rw [e8, e9]
/-- Each task of a tree. -/
theorem part_eval {l : List Fn} {zs : List Int} {fuel : Int} (hok : ∀ f ∈ l, f.Ok) (hz : ∀ x ∈ zs, okI x) (he0 : (evalV l zs fuel).2 = 0) (hp : noPed l) : AllV l ∧ (treeV l zs fuel).length ≤ 8388608 ∧ 1 ≤ (treeV l zs fuel).length ∧ (∀ (j : Nat) (y : Nd), (treeV l zs fuel)[j]? = some y → 1 ≤ y.work) ∧ sumW (treeV l zs fuel) ≤ 4194304 ∧ ∀ (j : Nat) (x : Nd), (treeV l zs fuel)[j]? = some x → (0 ≤ x.func ∧ x.func < l.length) ∧ okI x.arg ∧ ((parV l x.func = 0 ∨ parV l x.func = 1) → ∃ e, PartOk l (treeV l zs fuel) j e x fuel.toNat) := by
  have hr0 : refusedV l zs fuel = 0 := by
    by_cases h : refusedV l zs fuel = 0
    · exact h
    · unfold evalV at he0
      rw [if_pos h] at he0
      exact absurd he0 h
  obtain ⟨hcz, hpz, hf0, hf1⟩ := refused_zero hr0
  have hA := allV_of hcz hok
  obtain ⟨F, rfl⟩ := Int.eq_ofNat_of_zero_le hf0
  have hz8 := root_le hA hpz
  have hBg := root_begins hA true hz F (by omega)
  have hbare := run_bare' l zs F
  have hev2 : evalV l zs (F : Int) = (match runV l false zs F with
    | .gave e => (zeroVal, e)
    | .done v sp s => (⟨v, (F : Int) - s.fuel, s.tasks, s.depth, sp⟩, 0)) := by
    unfold evalV
    rw [if_neg (by simpa using hr0)]
    rfl
  rw [hbare] at hev2
  cases hq : runV l true zs F with
  | gave e =>
    rw [hq] at hev2
    have : evalV l zs (F : Int) = (zeroVal, e) := hev2
    rw [this] at he0
    exact absurd he0 (gave_ne hA hBg hq)
  | done v sp s =>
    obtain ⟨D, hW⟩ := run_shape hq
    obtain ⟨_, _, _, h4, h5, _⟩ := child_done hA hBg rfl hq
    have h6 := h5.tasks
    have htv : treeV l zs (F : Int) = s.nodes := by
      unfold treeV
      rw [show (F : Int).toNat = F from rfl, hq]
    rw [htv]
    have hlen := hW.len
    have hgl := hW.good.len
    have hkl : (keys s.nodes).length = s.nodes.length := by simp [keys]
    have hd1 : ¬ 4096 < (rootT zs).depth := by show ¬ (4096 : Int) < 1; decide
    have hrun := hq
    unfold runV playV at hrun
    rw [if_neg hd1] at hrun
    have hti := hBg.tin hd1
    obtain ⟨f2, _, _, hc2, hV2, _⟩ := hA.fn hti.func
    have hargs : ∀ y ∈ s.nodes, okI y.arg := by
      have hao : okI (enterT (startS F) (rootT zs)).node.arg := getD_ok hti.okr 0
      refine loop_args hA _ _ _ 0 (hBg.sin hd1) hti (by rw [hc2]; have := (valid_bounds hV2).2.2.2; omega) v sp s hrun (fun y hy => ?_) hao
      have hy2 : y ∈ [(enterT (startS F) (rootT zs)).node] := hy
      simp at hy2
      rw [hy2]
      exact hao
    refine ⟨hA, by omega, by omega, hW.fin, by have := hW.sum; omega, fun j x hx => ?_⟩
    have hjl := (List.getElem?_eq_some_iff.1 hx).1
    have hfx : 0 ≤ x.func ∧ x.func < l.length := hW.good.func hA j (keyN x) (by simp [keys, hx])
    have hax := hargs x (List.mem_of_getElem? hx)
    refine ⟨hfx, hax, fun hpar => ?_⟩
    by_cases hj : j = 0
    · subst hj
      obtain ⟨y, y1, y2, y3, y4⟩ := run_root hq
      have hsub : Sub l F s.nodes 0 := by
        refine ⟨F + 1, startS F, rootT zs, v, sp, s, hrun, rfl, rfl, ⟨zs, 0, ?_⟩, ⟨Int.le_refl _, by show (1 : Int) ≤ 4096; decide⟩, Nat.le_refl _, by omega, by omega, fun q _ _ => rfl, fun y hy => ?_, ?_, ⟨y, y1, y2, y3, y4⟩, fun q y hq1 hq2 hy => hW.low q y (by omega) hy, hW.len⟩
        · show argsV zs 0 zs.length = argsV zs 0 (parV l 0).toNat
          rw [← hpz]; rfl
        · rw [List.getElem?_eq_none (by omega)] at hy; cases hy
        · rw [List.drop_zero]; exact hW.sum
      exact sub_eval hA hcz hok hp hsub (Nat.le_refl _) (by omega) hx hfx hpar hax
    · exact sub_eval hA hcz hok hp (hW.sub j (by omega) (by omega)) (Nat.le_refl _) (by omega) hx hfx hpar hax
end Go.Proofs.YtfccnmgbdkideaaDoor
