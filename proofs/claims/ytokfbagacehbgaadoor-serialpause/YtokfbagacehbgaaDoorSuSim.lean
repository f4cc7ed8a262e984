import Derived.Test.YtokfbagacehbgaaDoorSuValid
import Derived.Test.YtokfbagacehbgaaDoorSrFuel
/-! A run with a sync ahead of each task. -/
namespace Go.Proofs.YtokfbagacehbgaaDoor
set_option linter.unusedVariables false
set_option maxRecDepth 20000
open Go.RowKit Go.PlainOps

theorem loop_tasks {fs : List Fn} {L : Bool} : ∀ (g : Nat) (s : Rn) (t : Tk) (at_ : Nat) (v sp : Int) (s2 : Rn), loopV fs L g s t at_ = .done v sp s2 → s.tasks ≤ s2.tasks
  | 0, s, t, at_, v, sp, s2, h => by simp [loopV] at h
  | g + 1, s, t, at_, v, sp, s2, h => by
    unfold loopV at h
    split at h
    · cases h
    · split at h
      · cases h
      · split at h
        · exact loop_tasks g (payS s) _ _ v sp s2 h
        · split at h
          · exact loop_tasks g (payS s) _ _ v sp s2 h
          · split at h
            · split at h
              · cases h
              · split at h
                · cases h
                · rename_i v1 sp1 s1 hr
                  have h1 := loop_tasks g _ _ 0 v1 sp1 s1 hr
                  have h2 := loop_tasks g _ _ _ v sp s2 h
                  have h3 : s.tasks + 1 ≤ s1.tasks := h1
                  omega
            · split at h
              · exact loop_tasks g (payS s) _ _ v sp s2 h
              · split at h
                · injection h with e1 e2 e3
                  subst e3
                  exact Nat.le_refl _
                · exact loop_tasks g (payS s) _ _ v sp s2 h
structure RelP (l : List Fn) (t t' : Tk) : Prop where
  regs : t'.regs = t.regs
  slots : t'.slots = t.slots
  func : t'.node.func = t.node.func
  ped : t'.node.ped = t.node.ped
  spawned : t'.spawned = t.spawned
  fun0 : 0 ≤ t.node.func ∧ t.node.func < l.length
  dep : t'.depth = t.depth
  span : 0 ≤ t.span ∧ t.span + 1 ≤ t'.span
  due : 0 ≤ t.due ∧ (t.due = 0 ∨ t.due + 1 ≤ t'.due)
theorem RelP.pay {l : List Fn} {t t' : Tk} (h : RelP l t t') : RelP l (payT t) (payT t') := ⟨h.regs, h.slots, h.func, h.ped, h.spawned, h.fun0, h.dep, by have := h.span; simp only [payT]; omega, h.due⟩
theorem RelP.wait {l : List Fn} {t t' : Tk} (h : RelP l t t') (ht : 1 ≤ t.span) : RelP l (waitT t) (waitT t') := by
  have h1 := h.span
  have h2 := h.due
  refine ⟨h.regs, h.slots, h.func, h.ped, h.spawned, h.fun0, h.dep, ?_, h.due⟩
  simp only [waitT, imax]
  repeat' split
  all_goals omega
theorem RelP.got {l : List Fn} {t t' : Tk} (h : RelP l t t') (ht : 1 ≤ t.span) (a : Nat) (v : Int) {sp sp' : Int} (h0 : 1 ≤ sp) (hsp : sp + 1 ≤ sp') : RelP l (gotT (spawnT t) a v sp) (gotT (spawnT t') a v sp') := by
  have h1 := h.span
  have h2 := h.due
  refine ⟨h.regs, by show t'.slots.set a v = t.slots.set a v; rw [h.slots], h.func, h.ped, by show t'.spawned + 1 = t.spawned + 1; rw [h.spawned], h.fun0, h.dep, h.span, ?_⟩
  simp only [gotT, spawnT, imax]
  repeat' split
  all_goals omega
theorem RelP.setR {l : List Fn} {t t' : Tk} (h : RelP l t t') (a : Nat) (x : Int) : RelP l (setR t a x) (setR t' a x) :=
  ⟨by show t'.regs.set a x = t.regs.set a x; rw [h.regs], h.slots, h.func, h.ped, h.spawned, h.fun0, h.dep, h.span, h.due⟩
theorem RelP.comp {l : List Fn} {t t' : Tk} (h : RelP l t t') (i : Ins) : RelP l (computeT t i) (computeT t' i) := by
  unfold computeT
  rw [h.regs, h.slots, h.ped]
  repeat' split
  all_goals first
    | exact h.setR _ _
    | exact h
theorem codeP {l : List Fn} {f : Int} : codeOf (pauseL l) f = ((l[f.toNat]?).map fun g => syncI :: g.code.map shI).getD [] := by
  unfold codeOf pauseL
  rw [List.getElem?_map]
  cases l[f.toNat]? <;> rfl
theorem loop_pause {l : List Fn} (hA : AllV l) : ∀ (g : Nat) (s : Rn) (t : Tk) (at_ : Nat) (v sp : Int) (s2 : Rn), loopV l false g s t at_ = .done v sp s2 → ∀ (G d : Nat) (s' : Rn) (t' : Tk), 2 * g ≤ G → s'.fuel = s.fuel + d → s2.tasks - s.tasks ≤ d → RelP l t t' → s'.depth = s.depth →
    ∃ sp' s2', loopV (pauseL l) false G s' t' (at_ + 1) = .done v sp' s2' ∧ s2'.fuel + (s2.tasks - s.tasks) = s2.fuel + d ∧ s2'.tasks + s.tasks = s2.tasks + s'.tasks ∧ 1 ≤ sp ∧ sp + 1 ≤ sp' ∧ s2'.depth = s2.depth
  | 0, s, t, at_, v, sp, s2, h, G, d, s', t', hG, hf, hd, hS, hdp => by simp [loopV] at h
  | g + 1, s, t, at_, v, sp, s2, h, G, d, s', t', hG, hf, hd, hS, hdp => by
    by_cases h0 : s.fuel = 0
    · rw [loop_out h0] at h; cases h
    · have h0' : s'.fuel ≠ 0 := by omega
      have hpf : (payS s').fuel = (payS s).fuel + d := by simp [payS]; omega
      obtain ⟨f, hfl, hfm, hcf, hV, hok⟩ := hA.fn hS.fun0
      have hcs : codeOf (pauseL l) t'.node.func = syncI :: f.code.map shI := by rw [hS.func, codeP, hfl]; rfl
      obtain ⟨G1, rfl⟩ : ∃ G1, G = G1 + 1 := ⟨G - 1, by omega⟩
      cases hi : f.code[at_]? with
      | none =>
        have hic : (codeOf l t.node.func)[at_]? = none := by rw [hcf]; exact hi
        exfalso
        unfold loopV at h
        rw [if_neg h0, hic] at h
        cases h
      | some i =>
        have hic : (codeOf l t.node.func)[at_]? = some i := by rw [hcf]; exact hi
        have hic' : (codeOf (pauseL l) t'.node.func)[at_ + 1]? = some (shI i) := by rw [hcs, List.getElem?_cons_succ, List.getElem?_map, hi]; rfl
        have so := step_ok hV hi
        have hcases : i.kind = 3 ∨ i.kind = 4 ∨ i.kind = 5 ∨ i.kind = 6 ∨ i.kind = 9 ∨ (i.kind = 0 ∨ i.kind = 1 ∨ i.kind = 2 ∨ i.kind = 7 ∨ i.kind = 8) := by have := so.kind; omega
        rcases hcases with hk | hk | hk | hk | hk | hk
        · rw [loop_jump h0 hic hk] at h
          rw [loop_jump h0' hic' (by rw [shI_kind]; exact hk), shI_a3 hk]
          have hj := so.jump hk
          rw [show (i.a + 1).toNat = i.a.toNat + 1 by omega]
          exact loop_pause hA g _ _ _ v sp s2 h G1 d _ _ (by omega) hpf hd hS.pay hdp
        · rw [loop_branch h0 hic hk] at h
          rw [loop_branch h0' hic' (by rw [shI_kind]; exact hk), shI_a (by omega), shI_b4 hk, hS.regs]
          have hj := so.branch hk
          have e : (if t.regs.getD i.a.toNat 0 = 0 then at_ + 1 + 1 else (i.b + 1).toNat) = (if t.regs.getD i.a.toNat 0 = 0 then at_ + 1 else i.b.toNat) + 1 := by
            split
            · rfl
            · omega
          rw [e]
          exact loop_pause hA g _ _ _ v sp s2 h G1 d _ _ (by omega) hpf hd hS.pay hdp
        · rw [loop_spawn h0 hic hk] at h
          rw [loop_spawn h0' hic' (by rw [shI_kind]; exact hk), shI_a (by omega)]
          cases hpl : playV l false g (payS s) (childV l (payT t) i) with
          | gave x => rw [hpl] at h; cases h
          | done v1 sp1 s1 =>
            rw [hpl] at h
            simp only at h
            unfold playV at hpl ⊢
            have hcd : (childV (pauseL l) (payT t') (shI i)).depth = (childV l (payT t) i).depth := by show t'.depth + 1 = t.depth + 1; rw [hS.dep]
            by_cases hdd : 4096 < (childV l (payT t) i).depth
            · rw [if_pos hdd] at hpl; cases hpl
            · rw [if_neg hdd] at hpl
              rw [if_neg (by rw [hcd]; exact hdd)]
              have ht1 := loop_tasks g _ _ 0 v1 sp1 s1 hpl
              have ht2 := loop_tasks g _ _ _ v sp s2 h
              have ht1' : s.tasks + 1 ≤ s1.tasks := ht1
              have hb := so.fn hk
              obtain ⟨f2, hf2, _, hcf2, hV2, _⟩ := hA.fn hb
              obtain ⟨G2, rfl⟩ : ∃ G2, G1 = G2 + 1 := ⟨G1 - 1, by omega⟩
              have hcode : (codeOf (pauseL l) (enterT (payS s') (childV (pauseL l) (payT t') (shI i))).node.func)[0]? = some syncI := by
                show (codeOf (pauseL l) (shI i).b)[0]? = some syncI
                rw [shI_b (by omega), codeP, hf2]
                rfl
              have hfu : (enterS false (payS s') (childV (pauseL l) (payT t') (shI i))).fuel ≠ 0 := by show (payS s').fuel ≠ 0; simp only [payS]; omega
              rw [loop_sync hfu hcode rfl]
              have hrel : RelP l (enterT (payS s) (childV l (payT t) i)) (waitT (payT (enterT (payS s') (childV (pauseL l) (payT t') (shI i))))) := by
                refine ⟨?_, rfl, ?_, ?_, rfl, hb, hcd, ⟨Int.le_refl _, ?_⟩, ⟨Int.le_refl _, .inl rfl⟩⟩
                · show argsV t'.regs (shI i).c.toNat (parV (pauseL l) (shI i).b).toNat = argsV t.regs i.c.toNat (parV l i.b).toNat
                  rw [hS.regs, shI_c, shI_b (by omega), par_pause]
                · show (shI i).b = i.b
                  exact shI_b (by omega)
                · show pedV t'.node.ped t'.spawned = pedV t.node.ped t.spawned
                  rw [hS.ped, hS.spawned]
                · show (0 : Int) + 1 ≤ imax (0 + 1) (0 + 1)
                  simp [imax]
              obtain ⟨sp1', s1', q1, q2, q3, q4, q5, q6⟩ := loop_pause hA g _ _ 0 v1 sp1 s1 hpl G2 (d - 1) (payS (enterS false (payS s') (childV (pauseL l) (payT t') (shI i)))) _ (by omega) (by show (payS s').fuel - 1 = (payS s).fuel + (d - 1); omega) (by show s1.tasks - (s.tasks + 1) ≤ d - 1; omega) hrel (by show imax s'.depth (childV (pauseL l) (payT t') (shI i)).depth = imax s.depth (childV l (payT t) i).depth; rw [hdp, hcd])
              rw [q1]
              simp only
              have q2' : s1'.fuel + (s1.tasks - (s.tasks + 1)) = s1.fuel + (d - 1) := q2
              have q3' : s1'.tasks + (s.tasks + 1) = s1.tasks + (s'.tasks + 1) := q3
              obtain ⟨sp2', s2', r1, r2, r3, r4, r5, r6⟩ := loop_pause hA g s1 _ _ v sp s2 h (G2 + 1) (d - (s1.tasks - s.tasks)) s1' (gotT (spawnT (payT t')) i.a.toNat v1 sp1') (by omega) (by omega) (by omega) (hS.pay.got (by have := hS.span; simp only [payT]; omega) i.a.toNat v1 q4 q5) q6
              exact ⟨sp2', s2', r1, by omega, by omega, r4, r5, r6⟩
        · rw [loop_sync h0 hic hk] at h
          rw [loop_sync h0' hic' (by rw [shI_kind]; exact hk)]
          exact loop_pause hA g _ _ _ v sp s2 h G1 d _ _ (by omega) hpf hd (hS.pay.wait (by have := hS.span; simp only [payT]; omega)) hdp
        · rw [loop_ret h0 hic hk] at h
          rw [loop_ret h0' hic' (by rw [shI_kind]; exact hk), shI_a (by omega), hS.regs]
          injection h with e1 e2 e3
          subst e3
          have h1 := hS.span
          refine ⟨t'.span + 1, leaveS false (payS s') (endT (payT t') v), by rw [e1], ?_, ?_, by omega, by omega, hdp⟩
          · show (payS s').fuel + (s.tasks - s.tasks) = (payS s).fuel + d
            omega
          · show s'.tasks + s.tasks = s.tasks + s'.tasks
            omega
        · have ei : shI i = i := by unfold shI; rw [if_neg (by omega), if_neg (by omega)]
          rw [ei] at hic'
          rw [loop_comp h0 hic hk] at h
          rw [loop_comp h0' hic' hk]
          exact loop_pause hA g _ _ _ v sp s2 h G1 d _ _ (by omega) hpf hd (hS.pay.comp i) hdp
/-- What the longer program comes to. -/
theorem pause_eval {l : List Fn} {zs : List Int} {fuel : Int} (hok : ∀ f ∈ l, f.Ok) (hz : ∀ x ∈ zs, okI x) {v wk tk dp sp : Int} (he : evalV l zs fuel = (⟨v, wk, tk, dp, sp⟩, 0)) (hm : wk + tk ≤ 4194304) (hlen : ∀ f ∈ l, f.code.length < 512) :
    0 ≤ wk ∧ 0 ≤ tk ∧ ∃ sp', evalV (pauseL l) zs (wk + tk) = (⟨v, wk + tk, tk, dp, sp'⟩, 0) ∧ sp < sp' ∧ (∀ f ∈ pauseL l, f.Ok) := by
  have he0 : (evalV l zs fuel).2 = 0 := by rw [he]
  have hr0 : refusedV l zs fuel = 0 := by
    by_cases h : refusedV l zs fuel = 0
    · exact h
    · unfold evalV at he0
      rw [if_pos h] at he0
      exact absurd he0 h
  obtain ⟨hcz, hpz, hf0, hf1⟩ := refused_zero hr0
  have hA := allV_of hcz hok
  have hcp := check_pause hcz hlen
  have hokp : ∀ f ∈ pauseL l, f.Ok := fun f hf => by
    obtain ⟨g, hg, rfl⟩ := List.mem_map.1 hf
    have hG := hok g hg
    refine ⟨hG.params, hG.regs, hG.slots, fun i hi => ?_⟩
    have hi2 : i ∈ syncI :: g.code.map shI := hi
    rcases List.mem_cons.1 hi2 with e | hi3
    · subst e
      exact ⟨by simp [syncI, okI], by simp [syncI, okI], by simp [syncI, okI], by simp [syncI, okI], by simp [syncI, okI]⟩
    · obtain ⟨i0, hi0, rfl⟩ := List.mem_map.1 hi3
      have hI := hG.code i0 hi0
      obtain ⟨q, hq, eq⟩ := List.getElem_of_mem hi0
      have so := step_ok (hA.all g hg) (at_ := q) (i := i0) (by rw [List.getElem?_eq_getElem hq, eq])
      have hgl := hlen g hg
      refine ⟨by rw [shI_kind]; exact hI.kind, ?_, ?_, by rw [shI_c]; exact hI.c, by rw [shI_k]; exact hI.k⟩
      · by_cases h3 : i0.kind = 3
        · rw [shI_a3 h3]; have := so.jump h3; unfold okI; omega
        · rw [shI_a h3]; exact hI.a
      · by_cases h4 : i0.kind = 4
        · rw [shI_b4 h4]; have := so.branch h4; unfold okI; omega
        · rw [shI_b h4]; exact hI.b
  have hA2 := allV_of hcp hokp
  obtain ⟨F, rfl⟩ := Int.eq_ofNat_of_zero_le hf0
  have hev2 : evalV l zs (F : Int) = (match runV l false zs F with
    | .gave e => (zeroVal, e)
    | .done v sp s => (⟨v, (F : Int) - s.fuel, s.tasks, s.depth, sp⟩, 0)) := by
    unfold evalV
    rw [if_neg (by simpa using hr0)]
    rfl
  rw [he] at hev2
  cases hq : runV l false zs F with
  | gave e =>
    rw [hq] at hev2
    have h1 := congrArg Prod.snd hev2
    have h2 : (0 : Int) = e := h1
    rcases run_gave hA hz (by omega) hq with h3 | h3 <;> omega
  | done v0 sp0 s =>
    rw [hq] at hev2
    have h1 := congrArg Prod.fst hev2
    injection h1 with e1 e2 e3 e4 e5
    subst e1 e5
    have hBg0 := root_begins hA false hz F (by omega)
    obtain ⟨_, _, _, hfle, _, _⟩ := child_done hA hBg0 rfl hq
    have hfle' : s.fuel ≤ F := hfle
    obtain ⟨K, hK⟩ : ∃ K, K = F - s.fuel := ⟨_, rfl⟩
    have hsh := run_shift hA hz (by omega) hq K (by omega)
    have hKi : wk = (K : Int) := by omega
    obtain ⟨X, hX⟩ : ∃ X, X = K + s.tasks := ⟨_, rfl⟩
    have hXi : wk + tk = (X : Int) := by omega
    refine ⟨by omega, by omega, ?_⟩
    have hd1 : ¬ 4096 < (rootT zs).depth := by show ¬ (4096 : Int) < 1; decide
    have hBg := root_begins hA2 false hz X (by omega)
    unfold runV playV at hsh
    rw [if_neg hd1] at hsh
    have hts := loop_tasks _ _ _ 0 v sp _ hsh
    have hts' : 1 ≤ s.tasks := hts
    obtain ⟨f2, hf2, _, hcf2, hV2, _⟩ := hA.fn (k := 0) ⟨Int.le_refl _, by have := hA.len; omega⟩
    have hcode : (codeOf (pauseL l) (enterT (startS X) (rootT zs)).node.func)[0]? = some syncI := by
      show (codeOf (pauseL l) 0)[0]? = some syncI
      rw [codeP, hf2]
      rfl
    have hfu : (enterS false (startS X) (rootT zs)).fuel ≠ 0 := by show X ≠ 0; omega
    have hrel : RelP l (enterT (startS K) (rootT zs)) (waitT (payT (enterT (startS X) (rootT zs)))) := by
      refine ⟨rfl, rfl, rfl, rfl, rfl, ⟨Int.le_refl _, by show (0 : Int) < _; have := hA.len; omega⟩, rfl, ⟨Int.le_refl _, ?_⟩, ⟨Int.le_refl _, .inl rfl⟩⟩
      show (0 : Int) + 1 ≤ imax (0 + 1) (0 + 1)
      simp [imax]
    have hle2 : K - (F - s.fuel) = 0 := by omega
    obtain ⟨sp', s2', q1, q2, q3, q4, q5, q6⟩ := loop_pause hA _ _ _ 0 v sp _ hsh (2 * (K + 1)) (s.tasks - 1) (payS (enterS false (startS X) (rootT zs))) _ (Nat.le_refl _) (by show X - 1 = K + (s.tasks - 1); omega) (by show s.tasks - 1 ≤ s.tasks - 1; omega) hrel rfl
    have hrun : loopV (pauseL l) false (2 * (K + 1) + 1) (enterS false (startS X) (rootT zs)) (enterT (startS X) (rootT zs)) 0 = .done v sp' s2' := by
      rw [loop_sync hfu hcode rfl]
      exact q1
    obtain ⟨f3, _, _, hc3, hV3, _⟩ := hA2.fn (hBg.tin hd1).func
    have hs2 := loop_shift hA2 false _ _ _ 0 (hBg.sin hd1) (hBg.tin hd1) (by rw [hc3]; have := (valid_bounds hV3).2.2.2; omega) v sp' s2' hrun (X + 1) X (by omega) (by show X - s2'.fuel ≤ X; omega)
    have q2' : s2'.fuel + (s.tasks - 1) = (K - (F - s.fuel)) + (s.tasks - 1) := q2
    have hz2 : s2'.fuel = 0 := by omega
    have q3' : s2'.tasks + 1 = s.tasks + 1 := q3
    have q6' : s2'.depth = s.depth := q6
    have hr2 : runV (pauseL l) false zs X = .done v sp' (s2'.at (X - (X - s2'.fuel))) := by
      unfold runV playV
      rw [if_neg hd1]
      exact hs2
    have href : refusedV (pauseL l) zs (X : Int) = 0 := by
      unfold refusedV
      rw [hcp, par_pause]
      rw [if_neg (by simp), if_neg (by rw [hpz]; simp), if_neg (by omega)]
    refine ⟨sp', ?_, by omega, hokp⟩
    rw [hXi]
    have e6 : evalV (pauseL l) zs (X : Int) = (match runV (pauseL l) false zs X with
      | .gave e => (zeroVal, e)
      | .done v sp s => (⟨v, (X : Int) - s.fuel, s.tasks, s.depth, sp⟩, 0)) := by
      unfold evalV
      rw [if_neg (by simpa using href)]
      rfl
    rw [e6, hr2]
    simp only
    have e7 : (s2'.at (X - (X - s2'.fuel))).fuel = 0 := by show X - (X - s2'.fuel) = 0; omega
    have e8 : (s2'.at (X - (X - s2'.fuel))).tasks = s2'.tasks := rfl
    have e9 : (s2'.at (X - (X - s2'.fuel))).depth = s2'.depth := rfl
    rw [e7, e8, e9]
    have e10 : (X : Int) - ((0 : Nat) : Int) = (X : Int) := by omega
    have e11 : (s2'.tasks : Int) = tk := by omega
    have e12 : s2'.depth = dp := by rw [q6', e4]
    rw [e10, e11, e12]
end Go.Proofs.YtokfbagacehbgaaDoor
