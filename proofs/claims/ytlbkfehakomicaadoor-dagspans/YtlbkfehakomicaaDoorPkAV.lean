import Derived.Test.YtlbkfehakomicaaDoorPkAU
/-! A run with a sync ahead of each task. -/
namespace Go.Proofs.YtlbkfehakomicaaDoor
set_option linter.unusedVariables false
set_option maxRecDepth 20000
open Go.RowKit Go.PlainOps

theorem loop_tasks {fs : List Fn} {L : Bool} : ∀ (g : Nat) (s : Rn) (t : Tk) (at_ : Nat) (v sp : Int) (s2 : Rn), loopV fs L g s t at_ = .done v sp s2 → s.tasks ≤ s2.tasks
  | 0, s, t, at_, v, sp, s2, h => by simp [loopV] at h
  | g + 1, s, t, at_, v, sp, s2, h => by
    unfold loopV at h
    split at h
    · cases h
    · split at h
      · cases h
      · split at h
        · exact loop_tasks g (payS s) _ _ v sp s2 h
        · split at h
          · exact loop_tasks g (payS s) _ _ v sp s2 h
          · split at h
            · split at h
              · cases h
              · split at h
                · cases h
                · rename_i v1 sp1 s1 hr
                  have h1 := loop_tasks g _ _ 0 v1 sp1 s1 hr
                  have h2 := loop_tasks g _ _ _ v sp s2 h
                  have h3 : s.tasks + 1 ≤ s1.tasks := h1
                  omega
            · split at h
              · exact loop_tasks g (payS s) _ _ v sp s2 h
              · split at h
                · injection h with e1 e2 e3
                  subst e3
                  exact Nat.le_refl _
                · exact loop_tasks g (payS s) _ _ v sp s2 h
structure RelP (l : List Fn) (t t' : Tk) : Prop where
  regs : t'.regs = t.regs
  slots : t'.slots = t.slots
  func : t'.node.func = t.node.func
  ped : t'.node.ped = t.node.ped
  spawned : t'.spawned = t.spawned
  fun0 : 0 ≤ t.node.func ∧ t.node.func < l.length
  dep : t'.depth = t.depth
  span : 0 ≤ t.span ∧ t.span + 1 ≤ t'.span
  due : 0 ≤ t.due ∧ (t.due = 0 ∨ t.due + 1 ≤ t'.due)
theorem RelP.pay {l : List Fn} {t t' : Tk} (h : RelP l t t') : RelP l (payT t) (payT t') := ⟨h.regs, h.slots, h.func, h.ped, h.spawned, h.fun0, h.dep, by have := h.span; simp only [payT]; omega, h.due⟩
theorem RelP.wait {l : List Fn} {t t' : Tk} (h : RelP l t t') (ht : 1 ≤ t.span) : RelP l (waitT t) (waitT t') := by
  have h1 := h.span
  have h2 := h.due
  refine ⟨h.regs, h.slots, h.func, h.ped, h.spawned, h.fun0, h.dep, ?_, h.due⟩
  simp only [waitT, imax]
  repeat' split
  all_goals omega
theorem RelP.got {l : List Fn} {t t' : Tk} (h : RelP l t t') (ht : 1 ≤ t.span) (a : Nat) (v : Int) {sp sp' : Int} (h0 : 1 ≤ sp) (hsp : sp + 1 ≤ sp') : RelP l (gotT (spawnT t) a v sp) (gotT (spawnT t') a v sp') := by
  have h1 := h.span
  have h2 := h.due
  refine ⟨h.regs, by show t'.slots.set a v = t.slots.set a v; rw [h.slots], h.func, h.ped, by show t'.spawned + 1 = t.spawned + 1; rw [h.spawned], h.fun0, h.dep, h.span, ?_⟩
  simp only [gotT, spawnT, imax]
  repeat' split
  all_goals omega
theorem RelP.setR {l : List Fn} {t t' : Tk} (h : RelP l t t') (a : Nat) (x : Int) : RelP l (setR t a x) (setR t' a x) :=
  ⟨by show t'.regs.set a x = t.regs.set a x; rw [h.regs], h.slots, h.func, h.ped, h.spawned, h.fun0, h.dep, h.span, h.due⟩
theorem RelP.comp {l : List Fn} {t t' : Tk} (h : RelP l t t') (i : Ins) : RelP l (computeT t i) (computeT t' i) := by
  unfold computeT
  rw [h.regs, h.slots, h.ped]
  repeat' split
  all_goals first
    | exact h.setR _ _
    | exact h
theorem codeP {l : List Fn} {f : Int} : codeOf (pauseL l) f = ((l[f.toNat]?).map fun g => syncI :: g.code.map shI).getD [] := by
  unfold codeOf pauseL
  rw [List.getElem?_map]
  cases l[f.toNat]? <;> rfl
theorem loop_pause {l : List Fn} (hA : AllV l) : ∀ (g : Nat) (s : Rn) (t : Tk) (at_ : Nat) (v sp : Int) (s2 : Rn), loopV l false g s t at_ = .done v sp s2 → ∀ (G d : Nat) (s' : Rn) (t' : Tk), 2 * g ≤ G → s'.fuel = s.fuel + d → s2.tasks - s.tasks ≤ d → RelP l t t' → s'.depth = s.depth →
    ∃ sp' s2', loopV (pauseL l) false G s' t' (at_ + 1) = .done v sp' s2' ∧ s2'.fuel + (s2.tasks - s.tasks) = s2.fuel + d ∧ s2'.tasks + s.tasks = s2.tasks + s'.tasks ∧ 1 ≤ sp ∧ sp + 1 ≤ sp' ∧ s2'.depth = s2.depth
  | 0, s, t, at_, v, sp, s2, h, G, d, s', t', hG, hf, hd, hS, hdp => by simp [loopV] at h
  | g + 1, s, t, at_, v, sp, s2, h, G, d, s', t', hG, hf, hd, hS, hdp => by
    by_cases h0 : s.fuel = 0
    · rw [loop_out h0] at h; cases h
    · have h0' : s'.fuel ≠ 0 := by omega
      have hpf : (payS s').fuel = (payS s).fuel + d := by simp [payS]; omega
      obtain ⟨f, hfl, hfm, hcf, hV, hok⟩ := hA.fn hS.fun0
      have hcs : codeOf (pauseL l) t'.node.func = syncI :: f.code.map shI := by rw [hS.func, codeP, hfl]; rfl
      obtain ⟨G1, rfl⟩ : ∃ G1, G = G1 + 1 := ⟨G - 1, by omega⟩
      cases hi : f.code[at_]? with
      | none =>
        have hic : (codeOf l t.node.func)[at_]? = none := by rw [hcf]; exact hi
        exfalso
        unfold loopV at h
        rw [if_neg h0, hic] at h
        cases h
      | some i =>
        have hic : (codeOf l t.node.func)[at_]? = some i := by rw [hcf]; exact hi
        have hic' : (codeOf (pauseL l) t'.node.func)[at_ + 1]? = some (shI i) := by rw [hcs, List.getElem?_cons_succ, List.getElem?_map, hi]; rfl
        have so := step_ok hV hi
        have hcases : i.kind = 3 ∨ i.kind = 4 ∨ i.kind = 5 ∨ i.kind = 6 ∨ i.kind = 9 ∨ (i.kind = 0 ∨ i.kind = 1 ∨ i.kind = 2 ∨ i.kind = 7 ∨ i.kind = 8) := by have := so.kind; omega
        rcases hcases with hk | hk | hk | hk | hk | hk
        · rw [loop_jump h0 hic hk] at h
          rw [loop_jump h0' hic' (by rw [shI_kind]; exact hk), shI_a3 hk]
          have hj := so.jump hk
          rw [show (i.a + 1).toNat = i.a.toNat + 1 by omega]
          exact loop_pause hA g _ _ _ v sp s2 h G1 d _ _ (by omega) hpf hd hS.pay hdp
        · rw [loop_branch h0 hic hk] at h
          rw [loop_branch h0' hic' (by rw [shI_kind]; exact hk), shI_a (by omega), shI_b4 hk, hS.regs]
          have hj := so.branch hk
          have e : (if t.regs.getD i.a.toNat 0 = 0 then at_ + 1 + 1 else (i.b + 1).toNat) = (if t.regs.getD i.a.toNat 0 = 0 then at_ + 1 else i.b.toNat) + 1 := by
            split
            · rfl
            · omega
          rw [e]
          exact loop_pause hA g _ _ _ v sp s2 h G1 d _ _ (by omega) hpf hd hS.pay hdp
        · rw [loop_spawn h0 hic hk] at h
          rw [loop_spawn h0' hic' (by rw [shI_kind]; exact hk), shI_a (by omega)]
          cases hpl : playV l false g (payS s) (childV l (payT t) i) with
          | gave x => rw [hpl] at h; cases h
          | done v1 sp1 s1 =>
            rw [hpl] at h
            simp only at h
            unfold playV at hpl ⊢
            have hcd : (childV (pauseL l) (payT t') (shI i)).depth = (childV l (payT t) i).depth := by show t'.depth + 1 = t.depth + 1; rw [hS.dep]
            by_cases hdd : 4096 < (childV l (payT t) i).depth
            · rw [if_pos hdd] at hpl; cases hpl
            · rw [if_neg hdd] at hpl
              rw [if_neg (by rw [hcd]; exact hdd)]
              have ht1 := loop_tasks g _ _ 0 v1 sp1 s1 hpl
              have ht2 := loop_tasks g _ _ _ v sp s2 h
              have ht1' : s.tasks + 1 ≤ s1.tasks := ht1
              have hb := so.fn hk
              obtain ⟨f2, hf2, _, hcf2, hV2, _⟩ := hA.fn hb
              obtain ⟨G2, rfl⟩ : ∃ G2, G1 = G2 + 1 := ⟨G1 - 1, by omega⟩
              have hcode : (codeOf (pauseL l) (enterT (payS s') (childV (pauseL l) (payT t') (shI i))).node.func)[0]? = some syncI := by
                show (codeOf (pauseL l) (shI i).b)[0]? = some syncI
                rw [shI_b (by omega), codeP, hf2]
                rfl
              have hfu : (enterS false (payS s') (childV (pauseL l) (payT t') (shI i))).fuel ≠ 0 := by show (payS s').fuel ≠ 0; simp only [payS]; omega
              rw [loop_sync hfu hcode rfl]
              have hrel : RelP l (enterT (payS s) (childV l (payT t) i)) (waitT (payT (enterT (payS s') (childV (pauseL l) (payT t') (shI i))))) := by
                refine ⟨?_, rfl, ?_, ?_, rfl, hb, hcd, ⟨Int.le_refl _, ?_⟩, ⟨Int.le_refl _, .inl rfl⟩⟩
                · show argsV t'.regs (shI i).c.toNat (parV (pauseL l) (shI i).b).toNat = argsV t.regs i.c.toNat (parV l i.b).toNat
                  rw [hS.regs, shI_c, shI_b (by omega), par_pause]
                · show (shI i).b = i.b
                  exact shI_b (by omega)
                · show pedV t'.node.ped t'.spawned = pedV t.node.ped t.spawned
                  rw [hS.ped, hS.spawned]
                · show (0 : Int) + 1 ≤ imax (0 + 1) (0 + 1)
                  simp [imax]
              obtain ⟨sp1', s1', q1, q2, q3, q4, q5, q6⟩ := loop_pause hA g _ _ 0 v1 sp1 s1 hpl G2 (d - 1) (payS (enterS false (payS s') (childV (pauseL l) (payT t') (shI i)))) _ (by omega) (by show (payS s').fuel - 1 = (payS s).fuel + (d - 1); omega) (by show s1.tasks - (s.tasks + 1) ≤ d - 1; omega) hrel (by show imax s'.depth (childV (pauseL l) (payT t') (shI i)).depth = imax s.depth (childV l (payT t) i).depth; rw [hdp, hcd])
              rw [q1]
              simp only
              have q2' : s1'.fuel + (s1.tasks - (s.tasks + 1)) = s1.fuel + (d - 1) := q2
              have q3' : s1'.tasks + (s.tasks + 1) = s1.tasks + (s'.tasks + 1) := q3
              obtain ⟨sp2', s2', r1, r2, r3, r4, r5, r6⟩ := loop_pause hA g s1 _ _ v sp s2 h (G2 + 1) (d - (s1.tasks - s.tasks)) s1' (gotT (spawnT (payT t')) i.a.toNat v1 sp1') (by omega) (by omega) (by omega) (hS.pay.got (by have := hS.span; simp only [payT]; omega) i.a.toNat v1 q4 q5) q6
              exact ⟨sp2', s2', r1, by omega, by omega, r4, r5, r6⟩
        · rw [loop_sync h0 hic hk] at h
          rw [loop_sync h0' hic' (by rw [shI_kind]; exact hk)]
          exact loop_pause hA g _ _ _ v sp s2 h G1 d _ _ (by omega) hpf hd (hS.pay.wait (by have := hS.span; simp only [payT]; omega)) hdp
        · rw [loop_ret h0 hic hk] at h
          rw [loop_ret h0' hic' (by rw [shI_kind]; exact hk), shI_a (by omega), hS.regs]
          injection h with e1 e2 e3
          subst e3
          have h1 := hS.span
          refine ⟨t'.span + 1, leaveS false (payS s') (endT (payT t') v), by rw [e1], ?_, ?_, by omega, by omega, hdp⟩
          · show (payS s').fuel + (s.tasks - s.tasks) = (payS s).fuel + d
            omega
          · show s'.tasks + s.tasks = s.tasks + s'.tasks
            omega
        · have ei : shI i = i := by unfold shI; rw [if_neg (by omega), if_neg (by omega)]
          rw [ei] at hic'
          rw [loop_comp h0 hic hk] at h
          rw [loop_comp h0' hic' hk]
          exact loop_pause hA g _ _ _ v sp s2 h G1 d _ _ (by omega) hpf hd (hS.pay.comp i) hdp
/-- What the longer program comes to. -/
theorem pause_eval {l : List Fn} {zs : List Int} {fuel : Int} (hok : ∀ f ∈ l, f.Ok) (hz : ∀ x ∈ zs, okI x) {v wk tk dp sp : Int} (he : evalV l zs fuel = (⟨v, wk, tk, dp, sp⟩, 0)) (hm : wk + tk ≤ 4194304) (hlen : ∀ f ∈ l, f.code.length < 512) :
    0 ≤ wk ∧ 0 ≤ tk ∧ ∃ sp', evalV (pauseL l) zs (wk + tk) = (⟨v, wk + tk, tk, dp, sp'⟩, 0) ∧ sp < sp' ∧ (∀ f ∈ pauseL l, f.Ok) := by
  have he0 : (evalV l zs fuel).2 = 0 := by rw [he]
  have hr0 : refusedV l zs fuel = 0 := by
    by_cases h : refusedV l zs fuel = 0
    · exact h
    · unfold evalV at he0
      rw [if_pos h] at he0
      exact absurd he0 h
  obtain ⟨hcz, hpz, hf0, hf1⟩ := refused_zero hr0
  have hA := allV_of hcz hok
  have hcp := check_pause hcz hlen
  have hokp : ∀ f ∈ pauseL l, f.Ok := fun f hf => by
    obtain ⟨g, hg, rfl⟩ := List.mem_map.1 hf
    have hG := hok g hg
    refine ⟨hG.params, hG.regs, hG.slots, fun i hi => ?_⟩
    have hi2 : i ∈ syncI :: g.code.map shI := hi
    rcases List.mem_cons.1 hi2 with e | hi3
    · subst e
      exact ⟨by simp [syncI, okI], by simp [syncI, okI], by simp [syncI, okI], by simp [syncI, okI], by simp [syncI, okI]⟩
    · obtain ⟨i0, hi0, rfl⟩ := List.mem_map.1 hi3
      have hI := hG.code i0 hi0
      obtain ⟨q, hq, eq⟩ := List.getElem_of_mem hi0
      have so := step_ok (hA.all g hg) (at_ := q) (i := i0) (by rw [List.getElem?_eq_getElem hq, eq])
      have hgl := hlen g hg
      refine ⟨by rw [shI_kind]; exact hI.kind, ?_, ?_, by rw [shI_c]; exact hI.c, by rw [shI_k]; exact hI.k⟩
      · by_cases h3 : i0.kind = 3
        · rw [shI_a3 h3]; have := so.jump h3; unfold okI; omega
        · rw [shI_a h3]; exact hI.a
      · by_cases h4 : i0.kind = 4
        · rw [shI_b4 h4]; have := so.branch h4; unfold okI; omega
        · rw [shI_b h4]; exact hI.b
  have hA2 := allV_of hcp hokp
  obtain ⟨F, rfl⟩ := Int.eq_ofNat_of_zero_le hf0
  have hev2 : evalV l zs (F : Int) = (match runV l false zs F with
    | .gave e => (zeroVal, e)
    | .done v sp s => (⟨v, (F : Int) - s.fuel, s.tasks, s.depth, sp⟩, 0)) := by
    unfold evalV
    rw [if_neg (by simpa using hr0)]
    rfl
  rw [he] at hev2
  cases hq : runV l false zs F with
  | gave e =>
    rw [hq] at hev2
    have h1 := congrArg Prod.snd hev2
    have h2 : (0 : Int) = e := h1
    rcases run_gave hA hz (by omega) hq with h3 | h3 <;> omega
  | done v0 sp0 s =>
    rw [hq] at hev2
    have h1 := congrArg Prod.fst hev2
    injection h1 with e1 e2 e3 e4 e5
    subst e1 e5
    have hBg0 := root_begins hA false hz F (by omega)
    obtain ⟨_, _, _, hfle, _, _⟩ := child_done hA hBg0 rfl hq
    have hfle' : s.fuel ≤ F := hfle
    obtain ⟨K, hK⟩ : ∃ K, K = F - s.fuel := ⟨_, rfl⟩
    have hsh := run_shift hA hz (by omega) hq K (by omega)
    have hKi : wk = (K : Int) := by omega
    obtain ⟨X, hX⟩ : ∃ X, X = K + s.tasks := ⟨_, rfl⟩
    have hXi : wk + tk = (X : Int) := by omega
    refine ⟨by omega, by omega, ?_⟩
    have hd1 : ¬ 4096 < (rootT zs).depth := by show ¬ (4096 : Int) < 1; decide
    have hBg := root_begins hA2 false hz X (by omega)
    unfold runV playV at hsh
    rw [if_neg hd1] at hsh
    have hts := loop_tasks _ _ _ 0 v sp _ hsh
    have hts' : 1 ≤ s.tasks := hts
    obtain ⟨f2, hf2, _, hcf2, hV2, _⟩ := hA.fn (k := 0) ⟨Int.le_refl _, by have := hA.len; omega⟩
    have hcode : (codeOf (pauseL l) (enterT (startS X) (rootT zs)).node.func)[0]? = some syncI := by
      show (codeOf (pauseL l) 0)[0]? = some syncI
      rw [codeP, hf2]
      rfl
    have hfu : (enterS false (startS X) (rootT zs)).fuel ≠ 0 := by show X ≠ 0; omega
    have hrel : RelP l (enterT (startS K) (rootT zs)) (waitT (payT (enterT (startS X) (rootT zs)))) := by
      refine ⟨rfl, rfl, rfl, rfl, rfl, ⟨Int.le_refl _, by show (0 : Int) < _; have := hA.len; omega⟩, rfl, ⟨Int.le_refl _, ?_⟩, ⟨Int.le_refl _, .inl rfl⟩⟩
      show (0 : Int) + 1 ≤ imax (0 + 1) (0 + 1)
      simp [imax]
    have hle2 : K - (F - s.fuel) = 0 := by omega
    obtain ⟨sp', s2', q1, q2, q3, q4, q5, q6⟩ := loop_pause hA _ _ _ 0 v sp _ hsh (2 * (K + 1)) (s.tasks - 1) (payS (enterS false (startS X) (rootT zs))) _ (Nat.le_refl _) (by show X - 1 = K + (s.tasks - 1); omega) (by show s.tasks - 1 ≤ s.tasks - 1; omega) hrel rfl
    have hrun : loopV (pauseL l) false (2 * (K + 1) + 1) (enterS false (startS X) (rootT zs)) (enterT (startS X) (rootT zs)) 0 = .done v sp' s2' := by
      rw [loop_sync hfu hcode rfl]
      exact q1
    obtain ⟨f3, _, _, hc3, hV3, _⟩ := hA2.fn (hBg.tin hd1).func
    have hs2 := loop_shift hA2 false _ _ _ 0 (hBg.sin hd1) (hBg.tin hd1) (by rw [hc3]; have := (valid_bounds hV3).2.2.2; omega) v sp' s2' hrun (X + 1) X (by omega) (by show X - s2'.fuel ≤ X; omega)
    have q2' : s2'.fuel + (s.tasks - 1) = (K - (F - s.fuel)) + (s.tasks - 1) := q2
    have hz2 : s2'.fuel = 0 := by omega
    have q3' : s2'.tasks + 1 = s.tasks + 1 := q3
    have q6' : s2'.depth = s.depth := q6
    have hr2 : runV (pauseL l) false zs X = .done v sp' (s2'.at (X - (X - s2'.fuel))) := by
      unfold runV playV
      rw [if_neg hd1]
      exact hs2
    have href : refusedV (pauseL l) zs (X : Int) = 0 := by
      unfold refusedV
      rw [hcp, par_pause]
      rw [if_neg (by simp), if_neg (by rw [hpz]; simp), if_neg (by omega)]
    refine ⟨sp', ?_, by omega, hokp⟩
    rw [hXi]
    have e6 : evalV (pauseL l) zs (X : Int) = (match runV (pauseL l) false zs X with
      | .gave e => (zeroVal, e)
      | .done v sp s => (⟨v, (X : Int) - s.fuel, s.tasks, s.depth, sp⟩, 0)) := by
      unfold evalV
      rw [if_neg (by simpa using href)]
      rfl
    rw [e6, hr2]
    simp only
    have e7 : (s2'.at (X - (X - s2'.fuel))).fuel = 0 := by show X - (X - s2'.fuel) = 0; omega
    have e8 : (s2'.at (X - (X - s2'.fuel))).tasks = s2'.tasks := rfl
    have e9 : (s2'.at (X - (X - s2'.fuel))).depth = s2'.depth := rfl
    rw [e7, e8, e9]
    have e10 : (X : Int) - ((0 : Nat) : Int) = (X : Int) := by omega
    have e11 : (s2'.tasks : Int) = tk := by omega
    have e12 : s2'.depth = dp := by rw [q6', e4]
    rw [e10, e11, e12]
end Go.Proofs.YtlbkfehakomicaaDoor
/-! A run traced, plainly: the nodes and edges of its dag, as tasks.Walk shows them to dag's trace. -/
namespace Go.Proofs.YtlbkfehakomicaaDoor
set_option linter.unusedVariables false
set_option maxRecDepth 20000
open Go.RowKit Go.PlainOps

structure Trc where
  n : Nat
  es : List (Nat × Nat)
  lasts : List Nat
  ends : List (List Nat)
def trc0 : Trc := ⟨0, [], [], []⟩
def sortN (l : List Nat) : List Nat := l.mergeSort (fun a b => decide (a ≤ b))
/-- A task that is shown for the first time has a place of its own. -/
def openT (T : Trc) (work : Int) : Trc := if work = 0 then { T with lasts := T.lasts ++ [0], ends := T.ends ++ [[]] } else T
/-- The nodes that an instruction has to wait for. -/
def fromsV (T : Trc) (num : Nat) (work : Int) (par : Option Nat) (i : Ins) : List Nat :=
  let fr := if work = 0 then (match par with | some p => [T.lasts.getD p 0] | none => []) else [T.lasts.getD num 0]
  if i.kind = 6 then sortN (fr ++ T.ends.getD num []) else fr
def clearT (T : Trc) (num : Nat) (i : Ins) : Trc := if i.kind = 6 then { T with ends := T.ends.set num [] } else T
def markT (T : Trc) (num : Nat) (par : Option Nat) (i : Ins) (fr : List Nat) : Trc :=
  let T3 : Trc := { T with n := T.n + 1, es := T.es ++ fr.map (fun f => (f, T.n)), lasts := T.lasts.set num T.n }
  match par with
  | some p => if i.kind = 9 then { T3 with ends := T3.ends.set p (T3.ends.getD p [] ++ [T.n]) } else T3
  | none => T3
def addV (T : Trc) (num : Nat) (work : Int) (par : Option Nat) (i : Ins) : Trc :=
  markT (clearT (openT T work) num i) num par i (fromsV (openT T work) num work par i)
/-- A task from instruction 'at_' on, shown. -/
def walkV (fs : List Fn) : Nat → Nat → Trc → Tk → Option Nat → Nat → Option (Int × Nat × Trc)
  | 0, _, _, _, _, _ => none
  | g + 1, k, T, t, par, at_ => match (codeOf fs t.node.func)[at_]? with
    | none => none
    | some i =>
      if i.kind = 3 then walkV fs g k (addV T t.number.toNat t.node.work par i) (payT t) par i.a.toNat
      else if i.kind = 4 then walkV fs g k (addV T t.number.toNat t.node.work par i) (payT t) par (if t.regs.getD i.a.toNat 0 = 0 then at_ + 1 else i.b.toNat)
      else if i.kind = 5 then match walkV fs g (k + 1) (addV T t.number.toNat t.node.work par i) (enterT ⟨0, k, 0, []⟩ (childV fs (payT t) i)) (some t.number.toNat) 0 with
        | none => none
        | some (v, k2, T2) => walkV fs g k2 T2 (gotT (spawnT (payT t)) i.a.toNat v 0) par (at_ + 1)
      else if i.kind = 9 then some (t.regs.getD i.a.toNat 0, k, addV T t.number.toNat t.node.work par i)
      else walkV fs g k (addV T t.number.toNat t.node.work par i) (computeT (payT t) i) par (at_ + 1)
/-- Two tasks that differ in their spans alone. -/
structure SameT (t t' : Tk) : Prop where
  regs : t'.regs = t.regs
  slots : t'.slots = t.slots
  node : t'.node = t.node
  number : t'.number = t.number
  spawned : t'.spawned = t.spawned
/-- A run that ends is shown to its end. -/
theorem walk_of {fs : List Fn} : ∀ (g : Nat) (s : Rn) (t : Tk) (at_ : Nat) (v sp : Int) (s2 : Rn), loopV fs false g s t at_ = .done v sp s2 → ∀ (T : Trc) (t' : Tk) (par : Option Nat), SameT t t' → ∃ T2, walkV fs g s.tasks T t' par at_ = some (v, s2.tasks, T2) ∧ T2.n + s2.fuel = T.n + s.fuel
  | 0, s, t, at_, v, sp, s2, h, T, t', par, hS => by simp [loopV] at h
  | g + 1, s, t, at_, v, sp, s2, h, T, t', par, hS => by
    have hn : ∀ T num work par i, (addV T num work par i).n = T.n + 1 := fun T num work par i => by
      unfold addV markT clearT openT
      cases par <;> simp only <;> (repeat' split) <;> rfl
    have hp : SameT (payT t) (payT t') := ⟨hS.regs, hS.slots, by simp only [payT, hS.node], hS.number, hS.spawned⟩
    unfold loopV at h
    unfold walkV
    rw [hS.node]
    split at h
    · cases h
    · rename_i h0
      have hf : (payS s).fuel + 1 = s.fuel := by simp only [payS]; omega
      cases hc : (codeOf fs t.node.func)[at_]? with
      | none => rw [hc] at h; cases h
      | some i =>
        rw [hc] at h
        simp only at h ⊢
        by_cases k3 : i.kind = 3
        · rw [if_pos k3] at h ⊢
          obtain ⟨T2, q1, q2⟩ := walk_of g (payS s) _ _ v sp s2 h (addV T t'.number.toNat t.node.work par i) (payT t') par hp
          exact ⟨T2, q1, by rw [hn] at q2; omega⟩
        · rw [if_neg k3] at h ⊢
          by_cases k4 : i.kind = 4
          · rw [if_pos k4] at h ⊢
            obtain ⟨T2, q1, q2⟩ := walk_of g (payS s) _ _ v sp s2 h (addV T t'.number.toNat t.node.work par i) (payT t') par hp
            rw [hS.regs]
            exact ⟨T2, q1, by rw [hn] at q2; omega⟩
          · rw [if_neg k4] at h ⊢
            by_cases k5 : i.kind = 5
            · rw [if_pos k5] at h ⊢
              split at h
              · cases h
              · split at h
                · cases h
                · rename_i v1 sp1 s1 hr
                  have hch : SameT (enterT (payS s) (childV fs (payT t) i)) (enterT ⟨0, s.tasks, 0, []⟩ (childV fs (payT t') i)) := by
                    have e1 : (childV fs (payT t') i).regs = (childV fs (payT t) i).regs := by show argsV t'.regs _ _ = argsV t.regs _ _; rw [hS.regs]
                    have e2 : (childV fs (payT t') i).node = (childV fs (payT t) i).node := by
                      show (⟨t'.number, t'.spawned, i.b, 0, pedV (payT t').node.ped t'.spawned, 0, 0⟩ : Nd) = ⟨t.number, t.spawned, i.b, 0, pedV (payT t).node.ped t.spawned, 0, 0⟩
                      rw [hS.number, hS.spawned, hp.node]
                    exact ⟨e1, rfl, by simp only [enterT, e1, e2], rfl, rfl⟩
                  obtain ⟨T1, q1, q2⟩ := walk_of g _ _ 0 v1 sp1 s1 hr (addV T t'.number.toNat t.node.work par i) _ (some t'.number.toNat) hch
                  have q1' : walkV fs g (s.tasks + 1) (addV T t'.number.toNat t.node.work par i) (enterT ⟨0, s.tasks, 0, []⟩ (childV fs (payT t') i)) (some t'.number.toNat) 0 = some (v1, s1.tasks, T1) := q1
                  rw [q1']
                  simp only
                  obtain ⟨T2, r1, r2⟩ := walk_of g s1 _ _ v sp s2 h T1 (gotT (spawnT (payT t')) i.a.toNat v1 0) par ⟨hS.regs, by show t'.slots.set _ _ = t.slots.set _ _; rw [hS.slots], hp.node, hS.number, by show t'.spawned + 1 = t.spawned + 1; rw [hS.spawned]⟩
                  refine ⟨T2, r1, ?_⟩
                  rw [hn] at q2
                  have q2' : T1.n + s1.fuel = T.n + 1 + (payS s).fuel := q2
                  omega
            · rw [if_neg k5] at h ⊢
              by_cases k6 : i.kind = 6
              · rw [if_pos k6] at h
                rw [if_neg (by omega)]
                have ec : computeT (payT t') i = payT t' := by
                  unfold computeT
                  rw [if_neg (by omega), if_neg (by omega), if_neg (by omega), if_neg (by omega), if_neg (by omega)]
                rw [ec]
                obtain ⟨T2, q1, q2⟩ := walk_of g (payS s) _ _ v sp s2 h (addV T t'.number.toNat t.node.work par i) (payT t') par ⟨hp.regs, hp.slots, hp.node, hp.number, hp.spawned⟩
                exact ⟨T2, q1, by rw [hn] at q2; omega⟩
              · rw [if_neg k6] at h
                by_cases k9 : i.kind = 9
                · rw [if_pos k9] at h ⊢
                  injection h with e1 e2 e3
                  subst e3
                  rw [hS.regs, e1]
                  refine ⟨_, rfl, ?_⟩
                  rw [hn]
                  show T.n + 1 + (payS s).fuel = T.n + s.fuel
                  omega
                · rw [if_neg k9] at h ⊢
                  have hcm : SameT (computeT (payT t) i) (computeT (payT t') i) := by
                    unfold computeT
                    rw [hp.regs, hp.slots, hp.node]
                    have hset : ∀ a x, SameT (setR (payT t) a x) (setR (payT t') a x) := fun a x => ⟨by show (payT t').regs.set a x = (payT t).regs.set a x; rw [hp.regs], hp.slots, hp.node, hp.number, hp.spawned⟩
                    repeat' split
                    all_goals first
                      | exact hset _ _
                      | exact hp
                  obtain ⟨T2, q1, q2⟩ := walk_of g (payS s) _ _ v sp s2 h (addV T t'.number.toNat t.node.work par i) (computeT (payT t') i) par hcm
                  exact ⟨T2, q1, by rw [hn] at q2; omega⟩
end Go.Proofs.YtlbkfehakomicaaDoor
/-! A run traced, plainly: how far each node lies from the beginning. -/
namespace Go.Proofs.YtlbkfehakomicaaDoor
set_option linter.unusedVariables false
set_option maxRecDepth 20000
open Go.RowKit Go.PlainOps

theorem getD_app {α : Type} {l m : List α} {k : Nat} (d : α) (h : k < l.length) : (l ++ m).getD k d = l.getD k d := by
  rw [List.getD_eq_getElem?_getD, List.getD_eq_getElem?_getD, List.getElem?_append_left h]
theorem getD_appR {α : Type} {l : List α} {x : α} (d : α) {k : Nat} (h : k = l.length) : (l ++ [x]).getD k d = x := by
  subst h
  rw [List.getD_eq_getElem?_getD, List.getElem?_append_right (Nat.le_refl _)]
  simp
theorem getD_set {α : Type} {l : List α} {k j : Nat} {x : α} (d : α) : (l.set k x).getD j d = if k = j ∧ j < l.length then x else l.getD j d := by
  rw [List.getD_eq_getElem?_getD, List.getD_eq_getElem?_getD, List.getElem?_set]
  by_cases h : k = j
  · subst h
    by_cases h2 : k < l.length
    · simp [h2]
    · simp [h2]
  · simp [h]
/-- How far a node lies, itself counted: one more than the farthest that it waits for. -/
structure Dst (T : Trc) (D : List Int) : Prop where
  len : D.length = T.n
  edge : ∀ e ∈ T.es, e.1 < e.2 ∧ e.2 < T.n
  low : ∀ e ∈ T.es, D.getD e.1 0 + 1 ≤ D.getD e.2 0
  hit : ∀ k < T.n, D.getD k 0 = 1 ∨ ∃ e ∈ T.es, e.2 = k ∧ D.getD k 0 = D.getD e.1 0 + 1
theorem mark_n (T : Trc) (m : Nat) (par : Option Nat) (i : Ins) (fr : List Nat) : (markT T m par i fr).n = T.n + 1 := by
  unfold markT; cases par <;> simp only <;> (repeat' split) <;> rfl
theorem mark_es (T : Trc) (m : Nat) (par : Option Nat) (i : Ins) (fr : List Nat) : (markT T m par i fr).es = T.es ++ fr.map (fun f => (f, T.n)) := by
  unfold markT; cases par <;> simp only <;> (repeat' split) <;> rfl
theorem mark_lasts (T : Trc) (m : Nat) (par : Option Nat) (i : Ins) (fr : List Nat) : (markT T m par i fr).lasts = T.lasts.set m T.n := by
  unfold markT; cases par <;> simp only <;> (repeat' split) <;> rfl
theorem mark_ends (T : Trc) (m : Nat) (par : Option Nat) (i : Ins) (fr : List Nat) (h9 : i.kind ≠ 9) : (markT T m par i fr).ends = T.ends := by
  unfold markT; cases par <;> simp only [if_neg h9]
theorem mark_ends9 (T : Trc) (m p : Nat) (i : Ins) (fr : List Nat) (h9 : i.kind = 9) : (markT T m (some p) i fr).ends = T.ends.set p (T.ends.getD p [] ++ [T.n]) := by
  unfold markT; simp only [if_pos h9]
theorem Dst.mark {T : Trc} {D : List Int} (h : Dst T D) (m : Nat) (par : Option Nat) (i : Ins) {fr : List Nat} {d : Int} (hf : ∀ f ∈ fr, f < T.n) (h1 : ∀ f ∈ fr, D.getD f 0 + 1 ≤ d) (h2 : d = 1 ∨ ∃ f ∈ fr, d = D.getD f 0 + 1) : Dst (markT T m par i fr) (D ++ [d]) := by
  have hl := h.len
  have hold : ∀ k, k < T.n → (D ++ [d]).getD k 0 = D.getD k 0 := fun k hk => getD_app 0 (by omega)
  have hnew : (D ++ [d]).getD T.n 0 = d := getD_appR 0 hl.symm
  refine ⟨?_, ?_, ?_, ?_⟩
  · rw [mark_n, List.length_append, hl]; rfl
  · rw [mark_es, mark_n]
    intro e he
    rcases List.mem_append.1 he with he | he
    · have := h.edge e he; omega
    · obtain ⟨f, hfm, rfl⟩ := List.mem_map.1 he
      have := hf f hfm
      exact ⟨this, Nat.lt_succ_self _⟩
  · rw [mark_es]
    intro e he
    rcases List.mem_append.1 he with he | he
    · have := h.edge e he
      rw [hold _ (by omega), hold _ (by omega)]
      exact h.low e he
    · obtain ⟨f, hfm, rfl⟩ := List.mem_map.1 he
      show (D ++ [d]).getD f 0 + 1 ≤ (D ++ [d]).getD T.n 0
      rw [hold _ (hf f hfm), hnew]
      exact h1 f hfm
  · rw [mark_es, mark_n]
    intro k hk
    by_cases hkn : k < T.n
    · rw [hold _ hkn]
      rcases h.hit k hkn with e | ⟨e, he, e1, e2⟩
      · exact .inl e
      · have := h.edge e he
        exact .inr ⟨e, List.mem_append.2 (.inl he), e1, by rw [hold _ (by omega)]; exact e2⟩
    · have hk' : k = T.n := by omega
      subst hk'
      rw [hnew]
      rcases h2 with e | ⟨f, hfm, e⟩
      · exact .inl e
      · exact .inr ⟨(f, T.n), List.mem_append.2 (.inr (List.mem_map.2 ⟨f, hfm, rfl⟩)), rfl, by show d = (D ++ [d]).getD f 0 + 1; rw [hold _ (hf f hfm)]; exact e⟩

/-- A task under way: its last node, and the ends of its children that it has not waited for. -/
structure Owes (T : Trc) (D : List Int) (m : Nat) (T0 span due : Int) (out : Prop) : Prop where
  cap : ∀ e ∈ T.ends.getD m [], e < T.n ∧ D.getD e 0 ≤ T0 + due
  hit : (∃ e ∈ T.ends.getD m [], D.getD e 0 = T0 + due) ∨ due + 1 ≤ span ∨ due = 0
  pend : T.ends.getD m [] ≠ [] → out
  nn : 0 ≤ T0 ∧ 0 ≤ span ∧ 0 ≤ due
/-- Ahead of an instruction: 'b' is what it waits for, but for children. -/
structure Ready (T : Trc) (D : List Int) (m tasks : Nat) (T0 span due : Int) (out : Prop) (b : List Nat) : Prop where
  dst : Dst T D
  lens : T.lasts.length = tasks ∧ T.ends.length = tasks
  m_lt : m < tasks
  base : (b = [] ∧ T0 + span = 0 ∧ T.ends.getD m [] = []) ∨ ∃ x, b = [x] ∧ x < T.n ∧ D.getD x 0 = T0 + span
  owes : Owes T D m T0 span due out
structure Going (T : Trc) (D : List Int) (m tasks : Nat) (T0 span due : Int) (out : Prop) : Prop where
  dst : Dst T D
  lens : T.lasts.length = tasks ∧ T.ends.length = tasks
  m_lt : m < tasks
  last : T.lasts.getD m 0 < T.n
  dist : D.getD (T.lasts.getD m 0) 0 = T0 + span
  owes : Owes T D m T0 span due out
theorem Going.ready {T : Trc} {D : List Int} {m tasks : Nat} {T0 span due : Int} {out : Prop} (h : Going T D m tasks T0 span due out) : Ready T D m tasks T0 span due out [T.lasts.getD m 0] :=
  ⟨h.dst, h.lens, h.m_lt, .inr ⟨_, rfl, h.last, h.dist⟩, h.owes⟩
def upL (T : Trc) : Option Nat → List Nat
  | some p => [T.lasts.getD p 0]
  | none => []
structure Fresh (T : Trc) (D : List Int) (m tasks : Nat) (par : Option Nat) (T0 : Int) : Prop where
  dst : Dst T D
  lens : T.lasts.length = m ∧ T.ends.length = m
  tasks : tasks = m + 1
  t0 : 0 ≤ T0
  root : par = none → T.n = 0 ∧ T0 = 0
  child : ∀ p, par = some p → p < m ∧ T.lasts.getD p 0 < T.n ∧ D.getD (T.lasts.getD p 0) 0 = T0
theorem Fresh.ready {T : Trc} {D : List Int} {m tasks : Nat} {par : Option Nat} {T0 : Int} (h : Fresh T D m tasks par T0) (out : Prop) : Ready (openT T 0) D m tasks T0 0 0 out (upL T par) := by
  have he : (openT T 0).ends.getD m [] = [] := by
    show (T.ends ++ [[]]).getD m [] = []
    exact getD_appR [] h.lens.2.symm
  refine ⟨⟨h.dst.len, h.dst.edge, h.dst.low, h.dst.hit⟩, ⟨?_, ?_⟩, ?_, ?_, ?_⟩
  · show (T.lasts ++ [0]).length = tasks
    rw [List.length_append, h.lens.1, h.tasks]; rfl
  · show (T.ends ++ [[]]).length = tasks
    rw [List.length_append, h.lens.2, h.tasks]; rfl
  · have := h.tasks; omega
  · cases par with
    | none => exact .inl ⟨rfl, by have := (h.root rfl).2; omega, he⟩
    | some p =>
      obtain ⟨h1, h2, h3⟩ := h.child p rfl
      exact .inr ⟨_, rfl, h2, by rw [h3]; omega⟩
  · refine ⟨fun e hm => ?_, .inr (.inr rfl), fun hh => absurd he hh, ⟨h.t0, Int.le_refl _, Int.le_refl _⟩⟩
    rw [he] at hm; cases hm
/-- An instruction that neither waits nor ends. -/
theorem Ready.step {T : Trc} {D : List Int} {m tasks : Nat} {T0 span due : Int} {out : Prop} {b : List Nat} (h : Ready T D m tasks T0 span due out b) (par : Option Nat) {i : Ins} (h9 : i.kind ≠ 9) :
    Going (markT T m par i b) (D ++ [T0 + span + 1]) m tasks T0 (span + 1) due out := by
  have hl := h.dst.len
  have hd : Dst (markT T m par i b) (D ++ [T0 + span + 1]) := by
    refine h.dst.mark m par i ?_ ?_ ?_
    · rcases h.base with ⟨rfl, _⟩ | ⟨x, rfl, hx, _⟩
      · intro f hf; cases hf
      · intro f hf; rw [List.mem_singleton.1 hf]; exact hx
    · rcases h.base with ⟨rfl, _⟩ | ⟨x, rfl, hx, e⟩
      · intro f hf; cases hf
      · intro f hf; rw [List.mem_singleton.1 hf, e]; exact Int.le_refl _
    · rcases h.base with ⟨rfl, e, _⟩ | ⟨x, rfl, hx, e⟩
      · left; omega
      · right; exact ⟨x, List.mem_singleton.2 rfl, by rw [e]⟩
  refine ⟨hd, ?_, h.m_lt, ?_, ?_, ?_⟩
  · rw [mark_lasts, mark_ends _ _ _ _ _ h9, List.length_set]; exact h.lens
  · rw [mark_lasts, mark_n, getD_set, if_pos ⟨rfl, by rw [h.lens.1]; exact h.m_lt⟩]; exact Nat.lt_succ_self _
  · rw [mark_lasts, getD_set, if_pos ⟨rfl, by rw [h.lens.1]; exact h.m_lt⟩, getD_appR 0 hl.symm]; omega
  · refine ⟨?_, ?_, ?_, ?_⟩
    · rw [mark_ends _ _ _ _ _ h9, mark_n]
      intro e he
      obtain ⟨h1, h2⟩ := h.owes.cap e he
      exact ⟨by omega, by rw [getD_app 0 (by omega)]; exact h2⟩
    · rw [mark_ends _ _ _ _ _ h9]
      rcases h.owes.hit with ⟨e, he, e2⟩ | e | e
      · exact .inl ⟨e, he, by rw [getD_app 0 (by have := (h.owes.cap e he).1; omega)]; exact e2⟩
      · exact .inr (.inl (by omega))
      · exact .inr (.inr e)
    · rw [mark_ends _ _ _ _ _ h9]; exact h.owes.pend
    · have := h.owes.nn; exact ⟨this.1, by omega, this.2.2⟩
theorem mem_sortN {l : List Nat} {x : Nat} : x ∈ sortN l ↔ x ∈ l := by unfold sortN; exact List.mem_mergeSort
theorem imax_l (a b : Int) : a ≤ imax a b := by unfold imax; split <;> omega
theorem imax_r (a b : Int) : b ≤ imax a b := by unfold imax; split <;> omega
theorem imax_or (a b : Int) : imax a b = a ∨ imax a b = b := by unfold imax; split; exact .inr rfl; exact .inl rfl
/-- An instruction that waits. -/
theorem Ready.wait {T : Trc} {D : List Int} {m tasks : Nat} {T0 span due : Int} {out : Prop} {b : List Nat} (h : Ready T D m tasks T0 span due out b) (par : Option Nat) {i : Ins} (h6 : i.kind = 6) (out2 : Prop) :
    Going (markT (clearT T m i) m par i (sortN (b ++ T.ends.getD m []))) (D ++ [T0 + imax (span + 1) (due + 1)]) m tasks T0 (imax (span + 1) (due + 1)) due out2 := by
  have hl := h.dst.len
  have hnn := h.owes.nn
  have ec : clearT T m i = { T with ends := T.ends.set m [] } := by unfold clearT; rw [if_pos h6]
  have hdc : Dst (clearT T m i) D := by rw [ec]; exact ⟨h.dst.len, h.dst.edge, h.dst.low, h.dst.hit⟩
  have hn : (clearT T m i).n = T.n := by rw [ec]
  have hla : (clearT T m i).lasts = T.lasts := by rw [ec]
  have hen : (clearT T m i).ends = T.ends.set m [] := by rw [ec]
  have h9 : i.kind ≠ 9 := by omega
  have L := imax_l (span + 1) (due + 1)
  have R := imax_r (span + 1) (due + 1)
  have O := imax_or (span + 1) (due + 1)
  have hd : Dst (markT (clearT T m i) m par i (sortN (b ++ T.ends.getD m []))) (D ++ [T0 + imax (span + 1) (due + 1)]) := by
    refine hdc.mark m par i ?_ ?_ ?_
    · intro f hf
      rw [mem_sortN, List.mem_append] at hf
      rw [hn]
      rcases hf with hf | hf
      · rcases h.base with ⟨rfl, _⟩ | ⟨x, rfl, hx, e⟩
        · cases hf
        · rw [List.mem_singleton.1 hf]; exact hx
      · exact (h.owes.cap f hf).1
    · intro f hf
      rw [mem_sortN, List.mem_append] at hf
      rcases hf with hf | hf
      · rcases h.base with ⟨rfl, _⟩ | ⟨x, rfl, hx, e⟩
        · cases hf
        · rw [List.mem_singleton.1 hf, e]; omega
      · have := (h.owes.cap f hf).2; omega
    · rcases h.base with ⟨rfl, e0, e1⟩ | ⟨x, rfl, hx, e⟩
      · left
        have hh := h.owes.hit
        rw [e1] at hh
        rcases hh with ⟨_, hm, _⟩ | hh | hh
        · cases hm
        · omega
        · rw [hh] at O ⊢; omega
      · right
        by_cases hle : due ≤ span
        · exact ⟨x, mem_sortN.2 (List.mem_append.2 (.inl (List.mem_singleton.2 rfl))), by rw [e]; omega⟩
        · rcases h.owes.hit with ⟨f, hf, e2⟩ | e2 | e2
          · exact ⟨f, mem_sortN.2 (List.mem_append.2 (.inr hf)), by rw [e2]; omega⟩
          · omega
          · omega
  have hem : (markT (clearT T m i) m par i (sortN (b ++ T.ends.getD m []))).ends.getD m [] = [] := by
    rw [mark_ends _ _ _ _ _ h9, hen, getD_set, if_pos ⟨rfl, by rw [h.lens.2]; exact h.m_lt⟩]
  refine ⟨hd, ?_, h.m_lt, ?_, ?_, ?_⟩
  · rw [mark_lasts, mark_ends _ _ _ _ _ h9, hla, hen, List.length_set, List.length_set]; exact h.lens
  · rw [mark_lasts, mark_n, hla, hn, getD_set, if_pos ⟨rfl, by rw [h.lens.1]; exact h.m_lt⟩]; exact Nat.lt_succ_self _
  · rw [mark_lasts, hla, hn, getD_set, if_pos ⟨rfl, by rw [h.lens.1]; exact h.m_lt⟩, getD_appR 0 hl.symm]
  · refine ⟨?_, ?_, ?_, ?_⟩
    · rw [hem]; intro e he; cases he
    · exact .inr (.inl R)
    · rw [hem]; intro hh; exact absurd rfl hh
    · exact ⟨hnn.1, by omega, hnn.2.2⟩
end Go.Proofs.YtlbkfehakomicaaDoor
/-! A run traced, plainly: the longest way is the span, the edges are counted by work and tasks. -/
namespace Go.Proofs.YtlbkfehakomicaaDoor
set_option linter.unusedVariables false
set_option maxRecDepth 20000
open Go.RowKit Go.PlainOps

def rootW (par : Option Nat) (w : Int) : Nat := if par = none ∧ w = 0 then 1 else 0
/-- A task before an instruction. -/
structure Stt (T : Trc) (D : List Int) (m tasks : Nat) (t : Tk) (par : Option Nat) (T0 : Int) (out : Prop) : Prop where
  up : ∀ p, par = some p → p < m
  is : (t.node.work = 0 ∧ t.span = 0 ∧ t.due = 0 ∧ Fresh T D m tasks par T0) ∨ (1 ≤ t.node.work ∧ Going T D m tasks T0 t.span t.due out)
structure Opened (T : Trc) (D : List Int) (m tasks : Nat) (t : Tk) (par : Option Nat) (T0 : Int) (out : Prop) (b : List Nat) : Prop where
  ready : Ready (openT T t.node.work) D m tasks T0 t.span t.due out b
  froms : ∀ i, fromsV (openT T t.node.work) m t.node.work par i = if i.kind = 6 then sortN (b ++ (openT T t.node.work).ends.getD m []) else b
  len : b.length + rootW par t.node.work = 1
  lasts : ∀ j, j < m → (openT T t.node.work).lasts.getD j 0 = T.lasts.getD j 0
  ends : ∀ j, j ≤ m → (openT T t.node.work).ends.getD j [] = T.ends.getD j []
  n : (openT T t.node.work).n = T.n
  es : (openT T t.node.work).es = T.es
  going : 1 ≤ t.node.work → T.lasts.getD m 0 ∈ b
  some_ : 0 < T.n → b ≠ []
theorem Stt.opened {T : Trc} {D : List Int} {m tasks : Nat} {t : Tk} {par : Option Nat} {T0 : Int} {out : Prop} (h : Stt T D m tasks t par T0 out) : ∃ b, Opened T D m tasks t par T0 out b := by
  rcases h.is with ⟨w0, s0, d0, hF⟩ | ⟨w1, hG⟩
  · refine ⟨upL T par, ?_, ?_, ?_, ?_, ?_, ?_, ?_, ?_, ?_⟩
    · rw [w0, s0, d0]; exact hF.ready out
    · intro i
      rw [w0]
      cases par with
      | none => unfold fromsV; simp only [if_true]; rfl
      | some p =>
        have e : (openT T 0).lasts.getD p 0 = T.lasts.getD p 0 := by rw [show (openT T 0).lasts = T.lasts ++ [0] from rfl, getD_app 0 (by have := hF.child p rfl; have := hF.lens; omega)]
        unfold fromsV
        simp only [if_true, e]
        rfl
    · rw [w0]; cases par <;> rfl
    · intro j hj
      rw [w0, show (openT T 0).lasts = T.lasts ++ [0] from rfl, getD_app 0 (by have := hF.lens; omega)]
    · intro j hj
      rw [w0, show (openT T 0).ends = T.ends ++ [[]] from rfl]
      by_cases hjm : j < m
      · rw [getD_app [] (by have := hF.lens; omega)]
      · have e : j = T.ends.length := by have := hF.lens; omega
        rw [getD_appR [] e, List.getD_eq_getElem?_getD, List.getElem?_eq_none (by omega)]; rfl
    · rw [w0]; rfl
    · rw [w0]; rfl
    · intro hh; omega
    · intro hh
      cases par with
      | none => have := (hF.root rfl).1; omega
      | some p => exact List.cons_ne_nil _ _
  · have e : openT T t.node.work = T := by unfold openT; rw [if_neg (by omega)]
    refine ⟨[T.lasts.getD m 0], ?_, ?_, ?_, ?_, ?_, ?_, ?_, ?_, ?_⟩
    · rw [e]; exact hG.ready
    · intro i
      rw [e]
      unfold fromsV
      simp only [if_neg (show ¬ t.node.work = 0 by omega)]
    · unfold rootW; rw [if_neg (by omega)]; rfl
    · intro j hj; rw [e]
    · intro j hj; rw [e]
    · rw [e]
    · rw [e]
    · intro _; exact List.mem_singleton.2 rfl
    · intro _; exact List.cons_ne_nil _ _
theorem clear_ne (T : Trc) (m : Nat) {i : Ins} (h : i.kind ≠ 6) : clearT T m i = T := by unfold clearT; rw [if_neg h]
/-- What lies below a task stays. -/
structure Kept (T T1 : Trc) (m : Nat) (par : Option Nat) : Prop where
  lasts : ∀ j, j < m → T1.lasts.getD j 0 = T.lasts.getD j 0
  ends : ∀ j, j < m → par ≠ some j → T1.ends.getD j [] = T.ends.getD j []
theorem Stt.step {T : Trc} {D : List Int} {m tasks : Nat} {t : Tk} {par : Option Nat} {T0 : Int} {out : Prop} (h : Stt T D m tasks t par T0 out) {i : Ins} (h6 : i.kind ≠ 6) (h9 : i.kind ≠ 9) :
    Going (addV T m t.node.work par i) (D ++ [T0 + t.span + 1]) m tasks T0 (t.span + 1) t.due out ∧ (∀ j, j < m → (addV T m t.node.work par i).lasts.getD j 0 = T.lasts.getD j 0) ∧ (∀ j, j ≤ m → (addV T m t.node.work par i).ends.getD j [] = T.ends.getD j []) ∧ (addV T m t.node.work par i).es.length + rootW par t.node.work = T.es.length + 1 := by
  obtain ⟨b, O⟩ := h.opened
  have e : addV T m t.node.work par i = markT (openT T t.node.work) m par i b := by
    unfold addV; rw [clear_ne _ _ h6, O.froms, if_neg h6]
  rw [e]
  refine ⟨O.ready.step par h9, fun j hj => ?_, fun j hj => ?_, ?_⟩
  · rw [mark_lasts, getD_set, if_neg (by omega), O.lasts j hj]
  · rw [mark_ends _ _ _ _ _ h9, O.ends j hj]
  · rw [mark_es, List.length_append, List.length_map, O.es]; have := O.len; omega
theorem Stt.wait {T : Trc} {D : List Int} {m tasks : Nat} {t : Tk} {par : Option Nat} {T0 : Int} {out : Prop} (h : Stt T D m tasks t par T0 out) {i : Ins} (h6 : i.kind = 6) (out2 : Prop) :
    Going (addV T m t.node.work par i) (D ++ [T0 + imax (t.span + 1) (t.due + 1)]) m tasks T0 (imax (t.span + 1) (t.due + 1)) t.due out2 ∧ (∀ j, j < m → (addV T m t.node.work par i).lasts.getD j 0 = T.lasts.getD j 0) ∧ (∀ j, j < m → (addV T m t.node.work par i).ends.getD j [] = T.ends.getD j []) ∧ (addV T m t.node.work par i).ends.getD m [] = [] ∧ (addV T m t.node.work par i).es.length + rootW par t.node.work = T.es.length + 1 + (T.ends.getD m []).length := by
  obtain ⟨b, O⟩ := h.opened
  have h9 : i.kind ≠ 9 := by omega
  have e : addV T m t.node.work par i = markT (clearT (openT T t.node.work) m i) m par i (sortN (b ++ (openT T t.node.work).ends.getD m [])) := by
    unfold addV; rw [O.froms, if_pos h6]
  have ec : clearT (openT T t.node.work) m i = { openT T t.node.work with ends := (openT T t.node.work).ends.set m [] } := by unfold clearT; rw [if_pos h6]
  have hR := O.ready.wait par h6 out2
  rw [e]
  refine ⟨hR, fun j hj => ?_, fun j hj => ?_, ?_, ?_⟩
  · rw [mark_lasts, getD_set, if_neg (by omega), ec]; exact O.lasts j hj
  · rw [mark_ends _ _ _ _ _ h9, ec]
    show ((openT T t.node.work).ends.set m []).getD j [] = _
    rw [getD_set, if_neg (by omega), O.ends j (by omega)]
  · rw [mark_ends _ _ _ _ _ h9, ec]
    show ((openT T t.node.work).ends.set m []).getD m [] = _
    rw [getD_set, if_pos ⟨rfl, by rw [O.ready.lens.2]; exact O.ready.m_lt⟩]
  · rw [mark_es, List.length_append, List.length_map, ec]
    show (openT T t.node.work).es.length + _ + _ = _
    rw [O.es, sortN, List.length_mergeSort, List.length_append, O.ends m (Nat.le_refl _)]
    have := O.len
    omega
theorem Stt.ret {T : Trc} {D : List Int} {m tasks : Nat} {t : Tk} {par : Option Nat} {T0 : Int} {out : Prop} (h : Stt T D m tasks t par T0 out) {i : Ins} (h9 : i.kind = 9) :
    Dst (addV T m t.node.work par i) (D ++ [T0 + t.span + 1]) ∧ (addV T m t.node.work par i).n = T.n + 1 ∧ ((addV T m t.node.work par i).lasts.length = tasks ∧ (addV T m t.node.work par i).ends.length = tasks) ∧ Kept T (addV T m t.node.work par i) m par ∧ (∀ p, par = some p → (addV T m t.node.work par i).ends.getD p [] = T.ends.getD p [] ++ [T.n]) ∧ (addV T m t.node.work par i).es.length + rootW par t.node.work = T.es.length + 1 := by
  obtain ⟨b, O⟩ := h.opened
  have h6 : i.kind ≠ 6 := by omega
  have e : addV T m t.node.work par i = markT (openT T t.node.work) m par i b := by
    unfold addV; rw [clear_ne _ _ h6, O.froms, if_neg h6]
  -- the distances do not look at what ends: as for an instruction that goes on
  have hd := (O.ready.step par (i := ⟨0, 0, 0, 0, 0⟩) (by decide)).dst
  have hd' : Dst (markT (openT T t.node.work) m par i b) (D ++ [T0 + t.span + 1]) := ⟨by rw [hd.len, mark_n, mark_n], fun x hx => by rw [mark_es] at hx; rw [mark_n]; have := hd.edge x (by rw [mark_es]; exact hx); rw [mark_n] at this; exact this, fun x hx => by rw [mark_es] at hx; exact hd.low x (by rw [mark_es]; exact hx), fun k hk => by rw [mark_n] at hk; have := hd.hit k (by rw [mark_n]; exact hk); rw [mark_es] at this ⊢; exact this⟩
  rw [e]
  have hL := O.ready.lens
  refine ⟨hd', by rw [mark_n, O.n], ⟨by rw [mark_lasts, List.length_set]; exact hL.1, ?_⟩, ⟨fun j hj => ?_, fun j hj hp => ?_⟩, fun p hp => ?_, ?_⟩
  · cases par with
    | none => exact hL.2
    | some p => rw [mark_ends9 _ _ _ _ _ h9, List.length_set]; exact hL.2
  · rw [mark_lasts, getD_set, if_neg (by omega), O.lasts j hj]
  · cases par with
    | none => exact O.ends j (by omega)
    | some p =>
      rw [mark_ends9 _ _ _ _ _ h9, getD_set, if_neg (by rintro ⟨rfl, _⟩; exact hp rfl), O.ends j (by omega)]
  · subst hp
    have := h.up p rfl
    rw [mark_ends9 _ _ _ _ _ h9, getD_set, if_pos ⟨rfl, by rw [hL.2]; have := O.ready.m_lt; omega⟩, O.ends p (by omega), O.n]
  · rw [mark_es, List.length_append, List.length_map, O.es]; have := O.len; omega
/-- What an instruction adds. -/
structure Adds (T T1 : Trc) (m : Nat) (work : Int) : Prop where
  sub : ∀ x ∈ T.es, x ∈ T1.es
  last : T1.lasts.getD m 0 = T.n
  fedL : 1 ≤ work → ∃ x ∈ T1.es, x.1 = T.lasts.getD m 0
  ins : 0 < T.n → ∃ x ∈ T1.es, x.2 = T.n
theorem Stt.adds {T : Trc} {D : List Int} {m tasks : Nat} {t : Tk} {par : Option Nat} {T0 : Int} {out : Prop} (h : Stt T D m tasks t par T0 out) (i : Ins) :
    Adds T (addV T m t.node.work par i) m t.node.work ∧ (i.kind = 6 → ∀ k ∈ T.ends.getD m [], ∃ x ∈ (addV T m t.node.work par i).es, x.1 = k) := by
  obtain ⟨b, O⟩ := h.opened
  have hcn : (clearT (openT T t.node.work) m i).n = T.n := by unfold clearT; split <;> exact O.n
  have hce : (clearT (openT T t.node.work) m i).es = T.es := by unfold clearT; split <;> exact O.es
  have hcl : (clearT (openT T t.node.work) m i).lasts.length = tasks := by unfold clearT; split <;> exact O.ready.lens.1
  have hes : (addV T m t.node.work par i).es = T.es ++ (fromsV (openT T t.node.work) m t.node.work par i).map (fun f => (f, T.n)) := by
    unfold addV; rw [mark_es, hce, hcn]
  have hfr : ∀ k, k ∈ b → k ∈ fromsV (openT T t.node.work) m t.node.work par i := fun k hk => by
    rw [O.froms]
    split
    · exact mem_sortN.2 (List.mem_append.2 (.inl hk))
    · exact hk
  refine ⟨⟨fun x hx => ?_, ?_, fun hw => ?_, fun hn => ?_⟩, fun h6 k hk => ?_⟩
  · rw [hes]; exact List.mem_append.2 (.inl hx)
  · unfold addV
    rw [mark_lasts, getD_set, if_pos ⟨rfl, by rw [hcl]; exact O.ready.m_lt⟩, hcn]
  · rw [hes]
    exact ⟨(T.lasts.getD m 0, T.n), List.mem_append.2 (.inr (List.mem_map.2 ⟨_, hfr _ (O.going hw), rfl⟩)), rfl⟩
  · rw [hes]
    obtain ⟨x, hx⟩ := List.exists_mem_of_ne_nil b (O.some_ hn)
    exact ⟨(x, T.n), List.mem_append.2 (.inr (List.mem_map.2 ⟨_, hfr _ hx, rfl⟩)), rfl⟩
  · rw [hes]
    refine ⟨(k, T.n), List.mem_append.2 (.inr (List.mem_map.2 ⟨k, ?_, rfl⟩)), rfl⟩
    rw [O.froms, if_pos h6, O.ends m (Nat.le_refl _)]
    exact mem_sortN.2 (List.mem_append.2 (.inr hk))
end Go.Proofs.YtlbkfehakomicaaDoor
