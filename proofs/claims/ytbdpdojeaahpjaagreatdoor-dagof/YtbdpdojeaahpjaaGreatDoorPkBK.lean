import Derived.Test.YtbdpdojeaahpjaaGreatDoorPkBJ
import Derived.Test.YtbdpdojeaahpjaaGreatDoorPkAC
/-! A run with a sync ahead of each task. -/
namespace Go.Proofs.YtbdpdojeaahpjaaGreatDoor
set_option linter.unusedVariables false
set_option maxRecDepth 20000
open Go.RowKit Go.PlainOps

theorem loop_tasks {fs : List Fn} {L : Bool} : ∀ (g : Nat) (s : Rn) (t : Tk) (at_ : Nat) (v sp : Int) (s2 : Rn), loopV fs L g s t at_ = .done v sp s2 → s.tasks ≤ s2.tasks
  | 0, s, t, at_, v, sp, s2, h => by simp [loopV] at h
  | g + 1, s, t, at_, v, sp, s2, h => by
    unfold loopV at h
    split at h
    · cases h
    · split at h
      · cases h
      · split at h
        · exact loop_tasks g (payS s) _ _ v sp s2 h
        · split at h
          · exact loop_tasks g (payS s) _ _ v sp s2 h
          · split at h
            · split at h
              · cases h
              · split at h
                · cases h
                · rename_i v1 sp1 s1 hr
                  have h1 := loop_tasks g _ _ 0 v1 sp1 s1 hr
                  have h2 := loop_tasks g _ _ _ v sp s2 h
                  have h3 : s.tasks + 1 ≤ s1.tasks := h1
                  omega
            · split at h
              · exact loop_tasks g (payS s) _ _ v sp s2 h
              · split at h
                · injection h with e1 e2 e3
                  subst e3
                  exact Nat.le_refl _
                · exact loop_tasks g (payS s) _ _ v sp s2 h
structure RelP (l : List Fn) (t t' : Tk) : Prop where
  regs : t'.regs = t.regs
  slots : t'.slots = t.slots
  func : t'.node.func = t.node.func
  ped : t'.node.ped = t.node.ped
  spawned : t'.spawned = t.spawned
  fun0 : 0 ≤ t.node.func ∧ t.node.func < l.length
  dep : t'.depth = t.depth
  span : 0 ≤ t.span ∧ t.span + 1 ≤ t'.span
  due : 0 ≤ t.due ∧ (t.due = 0 ∨ t.due + 1 ≤ t'.due)
theorem RelP.pay {l : List Fn} {t t' : Tk} (h : RelP l t t') : RelP l (payT t) (payT t') := ⟨h.regs, h.slots, h.func, h.ped, h.spawned, h.fun0, h.dep, by have := h.span; simp only [payT]; omega, h.due⟩
theorem RelP.wait {l : List Fn} {t t' : Tk} (h : RelP l t t') (ht : 1 ≤ t.span) : RelP l (waitT t) (waitT t') := by
  have h1 := h.span
  have h2 := h.due
  refine ⟨h.regs, h.slots, h.func, h.ped, h.spawned, h.fun0, h.dep, ?_, h.due⟩
  simp only [waitT, imax]
  repeat' split
  all_goals omega
theorem RelP.got {l : List Fn} {t t' : Tk} (h : RelP l t t') (ht : 1 ≤ t.span) (a : Nat) (v : Int) {sp sp' : Int} (h0 : 1 ≤ sp) (hsp : sp + 1 ≤ sp') : RelP l (gotT (spawnT t) a v sp) (gotT (spawnT t') a v sp') := by
  have h1 := h.span
  have h2 := h.due
  refine ⟨h.regs, by show t'.slots.set a v = t.slots.set a v; rw [h.slots], h.func, h.ped, by show t'.spawned + 1 = t.spawned + 1; rw [h.spawned], h.fun0, h.dep, h.span, ?_⟩
  simp only [gotT, spawnT, imax]
  repeat' split
  all_goals omega
theorem RelP.setR {l : List Fn} {t t' : Tk} (h : RelP l t t') (a : Nat) (x : Int) : RelP l (setR t a x) (setR t' a x) :=
  ⟨by show t'.regs.set a x = t.regs.set a x; rw [h.regs], h.slots, h.func, h.ped, h.spawned, h.fun0, h.dep, h.span, h.due⟩
theorem RelP.comp {l : List Fn} {t t' : Tk} (h : RelP l t t') (i : Ins) : RelP l (computeT t i) (computeT t' i) := by
  unfold computeT
  rw [h.regs, h.slots, h.ped]
  repeat' split
  all_goals first
    | exact h.setR _ _
    | exact h
theorem codeP {l : List Fn} {f : Int} : codeOf (pauseL l) f = ((l[f.toNat]?).map fun g => syncI :: g.code.map shI).getD [] := by
  unfold codeOf pauseL
  rw [List.getElem?_map]
  cases l[f.toNat]? <;> rfl
theorem loop_pause {l : List Fn} (hA : AllV l) : ∀ (g : Nat) (s : Rn) (t : Tk) (at_ : Nat) (v sp : Int) (s2 : Rn), loopV l false g s t at_ = .done v sp s2 → ∀ (G d : Nat) (s' : Rn) (t' : Tk), 2 * g ≤ G → s'.fuel = s.fuel + d → s2.tasks - s.tasks ≤ d → RelP l t t' → s'.depth = s.depth →
    ∃ sp' s2', loopV (pauseL l) false G s' t' (at_ + 1) = .done v sp' s2' ∧ s2'.fuel + (s2.tasks - s.tasks) = s2.fuel + d ∧ s2'.tasks + s.tasks = s2.tasks + s'.tasks ∧ 1 ≤ sp ∧ sp + 1 ≤ sp' ∧ s2'.depth = s2.depth
  | 0, s, t, at_, v, sp, s2, h, G, d, s', t', hG, hf, hd, hS, hdp => by simp [loopV] at h
  | g + 1, s, t, at_, v, sp, s2, h, G, d, s', t', hG, hf, hd, hS, hdp => by
    by_cases h0 : s.fuel = 0
    · rw [loop_out h0] at h; cases h
    · have h0' : s'.fuel ≠ 0 := by omega
      have hpf : (payS s').fuel = (payS s).fuel + d := by simp [payS]; omega
      obtain ⟨f, hfl, hfm, hcf, hV, hok⟩ := hA.fn hS.fun0
      have hcs : codeOf (pauseL l) t'.node.func = syncI :: f.code.map shI := by rw [hS.func, codeP, hfl]; rfl
      obtain ⟨G1, rfl⟩ : ∃ G1, G = G1 + 1 := ⟨G - 1, by omega⟩
      cases hi : f.code[at_]? with
      | none =>
        have hic : (codeOf l t.node.func)[at_]? = none := by rw [hcf]; exact hi
        exfalso
        unfold loopV at h
        rw [if_neg h0, hic] at h
        cases h
      | some i =>
        have hic : (codeOf l t.node.func)[at_]? = some i := by rw [hcf]; exact hi
        have hic' : (codeOf (pauseL l) t'.node.func)[at_ + 1]? = some (shI i) := by rw [hcs, List.getElem?_cons_succ, List.getElem?_map, hi]; rfl
        have so := step_ok hV hi
        have hcases : i.kind = 3 ∨ i.kind = 4 ∨ i.kind = 5 ∨ i.kind = 6 ∨ i.kind = 9 ∨ (i.kind = 0 ∨ i.kind = 1 ∨ i.kind = 2 ∨ i.kind = 7 ∨ i.kind = 8) := by have := so.kind; omega
        rcases hcases with hk | hk | hk | hk | hk | hk
        · rw [loop_jump h0 hic hk] at h
          rw [loop_jump h0' hic' (by rw [shI_kind]; exact hk), shI_a3 hk]
          have hj := so.jump hk
          rw [show (i.a + 1).toNat = i.a.toNat + 1 by omega]
          exact loop_pause hA g _ _ _ v sp s2 h G1 d _ _ (by omega) hpf hd hS.pay hdp
        · rw [loop_branch h0 hic hk] at h
          rw [loop_branch h0' hic' (by rw [shI_kind]; exact hk), shI_a (by omega), shI_b4 hk, hS.regs]
          have hj := so.branch hk
          have e : (if t.regs.getD i.a.toNat 0 = 0 then at_ + 1 + 1 else (i.b + 1).toNat) = (if t.regs.getD i.a.toNat 0 = 0 then at_ + 1 else i.b.toNat) + 1 := by
            split
            · rfl
            · omega
          rw [e]
          exact loop_pause hA g _ _ _ v sp s2 h G1 d _ _ (by omega) hpf hd hS.pay hdp
        · rw [loop_spawn h0 hic hk] at h
          rw [loop_spawn h0' hic' (by rw [shI_kind]; exact hk), shI_a (by omega)]
          cases hpl : playV l false g (payS s) (childV l (payT t) i) with
          | gave x => rw [hpl] at h; cases h
          | done v1 sp1 s1 =>
            rw [hpl] at h
            simp only at h
            unfold playV at hpl ⊢
            have hcd : (childV (pauseL l) (payT t') (shI i)).depth = (childV l (payT t) i).depth := by show t'.depth + 1 = t.depth + 1; rw [hS.dep]
            by_cases hdd : 4096 < (childV l (payT t) i).depth
            · rw [if_pos hdd] at hpl; cases hpl
            · rw [if_neg hdd] at hpl
              rw [if_neg (by rw [hcd]; exact hdd)]
              have ht1 := loop_tasks g _ _ 0 v1 sp1 s1 hpl
              have ht2 := loop_tasks g _ _ _ v sp s2 h
              have ht1' : s.tasks + 1 ≤ s1.tasks := ht1
              have hb := so.fn hk
              obtain ⟨f2, hf2, _, hcf2, hV2, _⟩ := hA.fn hb
              obtain ⟨G2, rfl⟩ : ∃ G2, G1 = G2 + 1 := ⟨G1 - 1, by omega⟩
              have hcode : (codeOf (pauseL l) (enterT (payS s') (childV (pauseL l) (payT t') (shI i))).node.func)[0]? = some syncI := by
                show (codeOf (pauseL l) (shI i).b)[0]? = some syncI
                rw [shI_b (by omega), codeP, hf2]
                rfl
              have hfu : (enterS false (payS s') (childV (pauseL l) (payT t') (shI i))).fuel ≠ 0 := by show (payS s').fuel ≠ 0; simp only [payS]; omega
              rw [loop_sync hfu hcode rfl]
              have hrel : RelP l (enterT (payS s) (childV l (payT t) i)) (waitT (payT (enterT (payS s') (childV (pauseL l) (payT t') (shI i))))) := by
                refine ⟨?_, rfl, ?_, ?_, rfl, hb, hcd, ⟨Int.le_refl _, ?_⟩, ⟨Int.le_refl _, .inl rfl⟩⟩
                · show argsV t'.regs (shI i).c.toNat (parV (pauseL l) (shI i).b).toNat = argsV t.regs i.c.toNat (parV l i.b).toNat
                  rw [hS.regs, shI_c, shI_b (by omega), par_pause]
                · show (shI i).b = i.b
                  exact shI_b (by omega)
                · show pedV t'.node.ped t'.spawned = pedV t.node.ped t.spawned
                  rw [hS.ped, hS.spawned]
                · show (0 : Int) + 1 ≤ imax (0 + 1) (0 + 1)
                  simp [imax]
              obtain ⟨sp1', s1', q1, q2, q3, q4, q5, q6⟩ := loop_pause hA g _ _ 0 v1 sp1 s1 hpl G2 (d - 1) (payS (enterS false (payS s') (childV (pauseL l) (payT t') (shI i)))) _ (by omega) (by show (payS s').fuel - 1 = (payS s).fuel + (d - 1); omega) (by show s1.tasks - (s.tasks + 1) ≤ d - 1; omega) hrel (by show imax s'.depth (childV (pauseL l) (payT t') (shI i)).depth = imax s.depth (childV l (payT t) i).depth; rw [hdp, hcd])
              rw [q1]
              simp only
              have q2' : s1'.fuel + (s1.tasks - (s.tasks + 1)) = s1.fuel + (d - 1) := q2
              have q3' : s1'.tasks + (s.tasks + 1) = s1.tasks + (s'.tasks + 1) := q3
              obtain ⟨sp2', s2', r1, r2, r3, r4, r5, r6⟩ := loop_pause hA g s1 _ _ v sp s2 h (G2 + 1) (d - (s1.tasks - s.tasks)) s1' (gotT (spawnT (payT t')) i.a.toNat v1 sp1') (by omega) (by omega) (by omega) (hS.pay.got (by have := hS.span; simp only [payT]; omega) i.a.toNat v1 q4 q5) q6
              exact ⟨sp2', s2', r1, by omega, by omega, r4, r5, r6⟩
        · rw [loop_sync h0 hic hk] at h
          rw [loop_sync h0' hic' (by rw [shI_kind]; exact hk)]
          exact loop_pause hA g _ _ _ v sp s2 h G1 d _ _ (by omega) hpf hd (hS.pay.wait (by have := hS.span; simp only [payT]; omega)) hdp
        · rw [loop_ret h0 hic hk] at h
          rw [loop_ret h0' hic' (by rw [shI_kind]; exact hk), shI_a (by omega), hS.regs]
          injection h with e1 e2 e3
          subst e3
          have h1 := hS.span
          refine ⟨t'.span + 1, leaveS false (payS s') (endT (payT t') v), by rw [e1], ?_, ?_, by omega, by omega, hdp⟩
          · show (payS s').fuel + (s.tasks - s.tasks) = (payS s).fuel + d
            omega
          · show s'.tasks + s.tasks = s.tasks + s'.tasks
            omega
        · have ei : shI i = i := by unfold shI; rw [if_neg (by omega), if_neg (by omega)]
          rw [ei] at hic'
          rw [loop_comp h0 hic hk] at h
          rw [loop_comp h0' hic' hk]
          exact loop_pause hA g _ _ _ v sp s2 h G1 d _ _ (by omega) hpf hd (hS.pay.comp i) hdp
/-- What the longer program comes to. -/
theorem pause_eval {l : List Fn} {zs : List Int} {fuel : Int} (hok : ∀ f ∈ l, f.Ok) (hz : ∀ x ∈ zs, okI x) {v wk tk dp sp : Int} (he : evalV l zs fuel = (⟨v, wk, tk, dp, sp⟩, 0)) (hm : wk + tk ≤ 4194304) (hlen : ∀ f ∈ l, f.code.length < 512) :
    0 ≤ wk ∧ 0 ≤ tk ∧ ∃ sp', evalV (pauseL l) zs (wk + tk) = (⟨v, wk + tk, tk, dp, sp'⟩, 0) ∧ sp < sp' ∧ (∀ f ∈ pauseL l, f.Ok) := by
  have he0 : (evalV l zs fuel).2 = 0 := by rw [he]
  have hr0 : refusedV l zs fuel = 0 := by
    by_cases h : refusedV l zs fuel = 0
    · exact h
    · unfold evalV at he0
      rw [if_pos h] at he0
      exact absurd he0 h
  obtain ⟨hcz, hpz, hf0, hf1⟩ := refused_zero hr0
  have hA := allV_of hcz hok
  have hcp := check_pause hcz hlen
  have hokp : ∀ f ∈ pauseL l, f.Ok := fun f hf => by
    obtain ⟨g, hg, rfl⟩ := List.mem_map.1 hf
    have hG := hok g hg
    refine ⟨hG.params, hG.regs, hG.slots, fun i hi => ?_⟩
    have hi2 : i ∈ syncI :: g.code.map shI := hi
    rcases List.mem_cons.1 hi2 with e | hi3
    · subst e
      exact ⟨by simp [syncI, okI], by simp [syncI, okI], by simp [syncI, okI], by simp [syncI, okI], by simp [syncI, okI]⟩
    · obtain ⟨i0, hi0, rfl⟩ := List.mem_map.1 hi3
      have hI := hG.code i0 hi0
      obtain ⟨q, hq, eq⟩ := List.getElem_of_mem hi0
      have so := step_ok (hA.all g hg) (at_ := q) (i := i0) (by rw [List.getElem?_eq_getElem hq, eq])
      have hgl := hlen g hg
      refine ⟨by rw [shI_kind]; exact hI.kind, ?_, ?_, by rw [shI_c]; exact hI.c, by rw [shI_k]; exact hI.k⟩
      · by_cases h3 : i0.kind = 3
        · rw [shI_a3 h3]; have := so.jump h3; unfold okI; omega
        · rw [shI_a h3]; exact hI.a
      · by_cases h4 : i0.kind = 4
        · rw [shI_b4 h4]; have := so.branch h4; unfold okI; omega
        · rw [shI_b h4]; exact hI.b
  have hA2 := allV_of hcp hokp
  obtain ⟨F, rfl⟩ := Int.eq_ofNat_of_zero_le hf0
  have hev2 : evalV l zs (F : Int) = (match runV l false zs F with
    | .gave e => (zeroVal, e)
    | .done v sp s => (⟨v, (F : Int) - s.fuel, s.tasks, s.depth, sp⟩, 0)) := by
    unfold evalV
    rw [if_neg (by simpa using hr0)]
    rfl
  rw [he] at hev2
  cases hq : runV l false zs F with
  | gave e =>
    rw [hq] at hev2
    have h1 := congrArg Prod.snd hev2
    have h2 : (0 : Int) = e := h1
    rcases run_gave hA hz (by omega) hq with h3 | h3 <;> omega
  | done v0 sp0 s =>
    rw [hq] at hev2
    have h1 := congrArg Prod.fst hev2
    injection h1 with e1 e2 e3 e4 e5
    subst e1 e5
    have hBg0 := root_begins hA false hz F (by omega)
    obtain ⟨_, _, _, hfle, _, _⟩ := child_done hA hBg0 rfl hq
    have hfle' : s.fuel ≤ F := hfle
    obtain ⟨K, hK⟩ : ∃ K, K = F - s.fuel := ⟨_, rfl⟩
    have hsh := run_shift hA hz (by omega) hq K (by omega)
    have hKi : wk = (K : Int) := by omega
    obtain ⟨X, hX⟩ : ∃ X, X = K + s.tasks := ⟨_, rfl⟩
    have hXi : wk + tk = (X : Int) := by omega
    refine ⟨by omega, by omega, ?_⟩
    have hd1 : ¬ 4096 < (rootT zs).depth := by show ¬ (4096 : Int) < 1; decide
    have hBg := root_begins hA2 false hz X (by omega)
    unfold runV playV at hsh
    rw [if_neg hd1] at hsh
    have hts := loop_tasks _ _ _ 0 v sp _ hsh
    have hts' : 1 ≤ s.tasks := hts
    obtain ⟨f2, hf2, _, hcf2, hV2, _⟩ := hA.fn (k := 0) ⟨Int.le_refl _, by have := hA.len; omega⟩
    have hcode : (codeOf (pauseL l) (enterT (startS X) (rootT zs)).node.func)[0]? = some syncI := by
      show (codeOf (pauseL l) 0)[0]? = some syncI
      rw [codeP, hf2]
      rfl
    have hfu : (enterS false (startS X) (rootT zs)).fuel ≠ 0 := by show X ≠ 0; omega
    have hrel : RelP l (enterT (startS K) (rootT zs)) (waitT (payT (enterT (startS X) (rootT zs)))) := by
      refine ⟨rfl, rfl, rfl, rfl, rfl, ⟨Int.le_refl _, by show (0 : Int) < _; have := hA.len; omega⟩, rfl, ⟨Int.le_refl _, ?_⟩, ⟨Int.le_refl _, .inl rfl⟩⟩
      show (0 : Int) + 1 ≤ imax (0 + 1) (0 + 1)
      simp [imax]
    have hle2 : K - (F - s.fuel) = 0 := by omega
    obtain ⟨sp', s2', q1, q2, q3, q4, q5, q6⟩ := loop_pause hA _ _ _ 0 v sp _ hsh (2 * (K + 1)) (s.tasks - 1) (payS (enterS false (startS X) (rootT zs))) _ (Nat.le_refl _) (by show X - 1 = K + (s.tasks - 1); omega) (by show s.tasks - 1 ≤ s.tasks - 1; omega) hrel rfl
    have hrun : loopV (pauseL l) false (2 * (K + 1) + 1) (enterS false (startS X) (rootT zs)) (enterT (startS X) (rootT zs)) 0 = .done v sp' s2' := by
      rw [loop_sync hfu hcode rfl]
      exact q1
    obtain ⟨f3, _, _, hc3, hV3, _⟩ := hA2.fn (hBg.tin hd1).func
    have hs2 := loop_shift hA2 false _ _ _ 0 (hBg.sin hd1) (hBg.tin hd1) (by rw [hc3]; have := (valid_bounds hV3).2.2.2; omega) v sp' s2' hrun (X + 1) X (by omega) (by show X - s2'.fuel ≤ X; omega)
    have q2' : s2'.fuel + (s.tasks - 1) = (K - (F - s.fuel)) + (s.tasks - 1) := q2
    have hz2 : s2'.fuel = 0 := by omega
    have q3' : s2'.tasks + 1 = s.tasks + 1 := q3
    have q6' : s2'.depth = s.depth := q6
    have hr2 : runV (pauseL l) false zs X = .done v sp' (s2'.at (X - (X - s2'.fuel))) := by
      unfold runV playV
      rw [if_neg hd1]
      exact hs2
    have href : refusedV (pauseL l) zs (X : Int) = 0 := by
      unfold refusedV
      rw [hcp, par_pause]
      rw [if_neg (by simp), if_neg (by rw [hpz]; simp), if_neg (by omega)]
    refine ⟨sp', ?_, by omega, hokp⟩
    rw [hXi]
    have e6 : evalV (pauseL l) zs (X : Int) = (match runV (pauseL l) false zs X with
      | .gave e => (zeroVal, e)
      | .done v sp s => (⟨v, (X : Int) - s.fuel, s.tasks, s.depth, sp⟩, 0)) := by
      unfold evalV
      rw [if_neg (by simpa using href)]
      rfl
    rw [e6, hr2]
    simp only
    have e7 : (s2'.at (X - (X - s2'.fuel))).fuel = 0 := by show X - (X - s2'.fuel) = 0; omega
    have e8 : (s2'.at (X - (X - s2'.fuel))).tasks = s2'.tasks := rfl
    have e9 : (s2'.at (X - (X - s2'.fuel))).depth = s2'.depth := rfl
    rw [e7, e8, e9]
    have e10 : (X : Int) - ((0 : Nat) : Int) = (X : Int) := by omega
    have e11 : (s2'.tasks : Int) = tk := by omega
    have e12 : s2'.depth = dp := by rw [q6', e4]
    rw [e10, e11, e12]
end Go.Proofs.YtbdpdojeaahpjaaGreatDoor
/-! A run traced, plainly: the nodes and edges of its dag, as tasks.Walk shows them to dag's trace. -/
namespace Go.Proofs.YtbdpdojeaahpjaaGreatDoor
set_option linter.unusedVariables false
set_option maxRecDepth 20000
open Go.RowKit Go.PlainOps

structure Trc where
  n : Nat
  es : List (Nat × Nat)
  lasts : List Nat
  ends : List (List Nat)
def trc0 : Trc := ⟨0, [], [], []⟩
def sortN (l : List Nat) : List Nat := l.mergeSort (fun a b => decide (a ≤ b))
/-- A task that is shown for the first time has a place of its own. -/
def openT (T : Trc) (work : Int) : Trc := if work = 0 then { T with lasts := T.lasts ++ [0], ends := T.ends ++ [[]] } else T
/-- The nodes that an instruction has to wait for. -/
def fromsV (T : Trc) (num : Nat) (work : Int) (par : Option Nat) (i : Ins) : List Nat :=
  let fr := if work = 0 then (match par with | some p => [T.lasts.getD p 0] | none => []) else [T.lasts.getD num 0]
  if i.kind = 6 then sortN (fr ++ T.ends.getD num []) else fr
def clearT (T : Trc) (num : Nat) (i : Ins) : Trc := if i.kind = 6 then { T with ends := T.ends.set num [] } else T
def markT (T : Trc) (num : Nat) (par : Option Nat) (i : Ins) (fr : List Nat) : Trc :=
  let T3 : Trc := { T with n := T.n + 1, es := T.es ++ fr.map (fun f => (f, T.n)), lasts := T.lasts.set num T.n }
  match par with
  | some p => if i.kind = 9 then { T3 with ends := T3.ends.set p (T3.ends.getD p [] ++ [T.n]) } else T3
  | none => T3
def addV (T : Trc) (num : Nat) (work : Int) (par : Option Nat) (i : Ins) : Trc :=
  markT (clearT (openT T work) num i) num par i (fromsV (openT T work) num work par i)
/-- A task from instruction 'at_' on, shown. -/
def walkV (fs : List Fn) : Nat → Nat → Trc → Tk → Option Nat → Nat → Option (Int × Nat × Trc)
  | 0, _, _, _, _, _ => none
  | g + 1, k, T, t, par, at_ => match (codeOf fs t.node.func)[at_]? with
    | none => none
    | some i =>
      if i.kind = 3 then walkV fs g k (addV T t.number.toNat t.node.work par i) (payT t) par i.a.toNat
      else if i.kind = 4 then walkV fs g k (addV T t.number.toNat t.node.work par i) (payT t) par (if t.regs.getD i.a.toNat 0 = 0 then at_ + 1 else i.b.toNat)
      else if i.kind = 5 then match walkV fs g (k + 1) (addV T t.number.toNat t.node.work par i) (enterT ⟨0, k, 0, []⟩ (childV fs (payT t) i)) (some t.number.toNat) 0 with
        | none => none
        | some (v, k2, T2) => walkV fs g k2 T2 (gotT (spawnT (payT t)) i.a.toNat v 0) par (at_ + 1)
      else if i.kind = 9 then some (t.regs.getD i.a.toNat 0, k, addV T t.number.toNat t.node.work par i)
      else walkV fs g k (addV T t.number.toNat t.node.work par i) (computeT (payT t) i) par (at_ + 1)
/-- Two tasks that differ in their spans alone. -/
structure SameT (t t' : Tk) : Prop where
  regs : t'.regs = t.regs
  slots : t'.slots = t.slots
  node : t'.node = t.node
  number : t'.number = t.number
  spawned : t'.spawned = t.spawned
/-- A run that ends is shown to its end. -/
theorem walk_of {fs : List Fn} : ∀ (g : Nat) (s : Rn) (t : Tk) (at_ : Nat) (v sp : Int) (s2 : Rn), loopV fs false g s t at_ = .done v sp s2 → ∀ (T : Trc) (t' : Tk) (par : Option Nat), SameT t t' → ∃ T2, walkV fs g s.tasks T t' par at_ = some (v, s2.tasks, T2) ∧ T2.n + s2.fuel = T.n + s.fuel
  | 0, s, t, at_, v, sp, s2, h, T, t', par, hS => by simp [loopV] at h
  | g + 1, s, t, at_, v, sp, s2, h, T, t', par, hS => by
    have hn : ∀ T num work par i, (addV T num work par i).n = T.n + 1 := fun T num work par i => by
      unfold addV markT clearT openT
      cases par <;> simp only <;> (repeat' split) <;> rfl
    have hp : SameT (payT t) (payT t') := ⟨hS.regs, hS.slots, by simp only [payT, hS.node], hS.number, hS.spawned⟩
    unfold loopV at h
    unfold walkV
    rw [hS.node]
    split at h
    · cases h
    · rename_i h0
      have hf : (payS s).fuel + 1 = s.fuel := by simp only [payS]; omega
      cases hc : (codeOf fs t.node.func)[at_]? with
      | none => rw [hc] at h; cases h
      | some i =>
        rw [hc] at h
        simp only at h ⊢
        by_cases k3 : i.kind = 3
        · rw [if_pos k3] at h ⊢
          obtain ⟨T2, q1, q2⟩ := walk_of g (payS s) _ _ v sp s2 h (addV T t'.number.toNat t.node.work par i) (payT t') par hp
          exact ⟨T2, q1, by rw [hn] at q2; omega⟩
        · rw [if_neg k3] at h ⊢
          by_cases k4 : i.kind = 4
          · rw [if_pos k4] at h ⊢
            obtain ⟨T2, q1, q2⟩ := walk_of g (payS s) _ _ v sp s2 h (addV T t'.number.toNat t.node.work par i) (payT t') par hp
            rw [hS.regs]
            exact ⟨T2, q1, by rw [hn] at q2; omega⟩
          · rw [if_neg k4] at h ⊢
            by_cases k5 : i.kind = 5
            · rw [if_pos k5] at h ⊢
              split at h
              · cases h
              · split at h
                · cases h
                · rename_i v1 sp1 s1 hr
                  have hch : SameT (enterT (payS s) (childV fs (payT t) i)) (enterT ⟨0, s.tasks, 0, []⟩ (childV fs (payT t') i)) := by
                    have e1 : (childV fs (payT t') i).regs = (childV fs (payT t) i).regs := by show argsV t'.regs _ _ = argsV t.regs _ _; rw [hS.regs]
                    have e2 : (childV fs (payT t') i).node = (childV fs (payT t) i).node := by
                      show (⟨t'.number, t'.spawned, i.b, 0, pedV (payT t').node.ped t'.spawned, 0, 0⟩ : Nd) = ⟨t.number, t.spawned, i.b, 0, pedV (payT t).node.ped t.spawned, 0, 0⟩
                      rw [hS.number, hS.spawned, hp.node]
                    exact ⟨e1, rfl, by simp only [enterT, e1, e2], rfl, rfl⟩
                  obtain ⟨T1, q1, q2⟩ := walk_of g _ _ 0 v1 sp1 s1 hr (addV T t'.number.toNat t.node.work par i) _ (some t'.number.toNat) hch
                  have q1' : walkV fs g (s.tasks + 1) (addV T t'.number.toNat t.node.work par i) (enterT ⟨0, s.tasks, 0, []⟩ (childV fs (payT t') i)) (some t'.number.toNat) 0 = some (v1, s1.tasks, T1) := q1
                  rw [q1']
                  simp only
                  obtain ⟨T2, r1, r2⟩ := walk_of g s1 _ _ v sp s2 h T1 (gotT (spawnT (payT t')) i.a.toNat v1 0) par ⟨hS.regs, by show t'.slots.set _ _ = t.slots.set _ _; rw [hS.slots], hp.node, hS.number, by show t'.spawned + 1 = t.spawned + 1; rw [hS.spawned]⟩
                  refine ⟨T2, r1, ?_⟩
                  rw [hn] at q2
                  have q2' : T1.n + s1.fuel = T.n + 1 + (payS s).fuel := q2
                  omega
            · rw [if_neg k5] at h ⊢
              by_cases k6 : i.kind = 6
              · rw [if_pos k6] at h
                rw [if_neg (by omega)]
                have ec : computeT (payT t') i = payT t' := by
                  unfold computeT
                  rw [if_neg (by omega), if_neg (by omega), if_neg (by omega), if_neg (by omega), if_neg (by omega)]
                rw [ec]
                obtain ⟨T2, q1, q2⟩ := walk_of g (payS s) _ _ v sp s2 h (addV T t'.number.toNat t.node.work par i) (payT t') par ⟨hp.regs, hp.slots, hp.node, hp.number, hp.spawned⟩
                exact ⟨T2, q1, by rw [hn] at q2; omega⟩
              · rw [if_neg k6] at h
                by_cases k9 : i.kind = 9
                · rw [if_pos k9] at h ⊢
                  injection h with e1 e2 e3
                  subst e3
                  rw [hS.regs, e1]
                  refine ⟨_, rfl, ?_⟩
                  rw [hn]
                  show T.n + 1 + (payS s).fuel = T.n + s.fuel
                  omega
                · rw [if_neg k9] at h ⊢
                  have hcm : SameT (computeT (payT t) i) (computeT (payT t') i) := by
                    unfold computeT
                    rw [hp.regs, hp.slots, hp.node]
                    have hset : ∀ a x, SameT (setR (payT t) a x) (setR (payT t') a x) := fun a x => ⟨by show (payT t').regs.set a x = (payT t).regs.set a x; rw [hp.regs], hp.slots, hp.node, hp.number, hp.spawned⟩
                    repeat' split
                    all_goals first
                      | exact hset _ _
                      | exact hp
                  obtain ⟨T2, q1, q2⟩ := walk_of g (payS s) _ _ v sp s2 h (addV T t'.number.toNat t.node.work par i) (computeT (payT t') i) par hcm
                  exact ⟨T2, q1, by rw [hn] at q2; omega⟩
end Go.Proofs.YtbdpdojeaahpjaaGreatDoor
/-! Of a run that is shown: which places the trace has. -/
namespace Go.Proofs.YtbdpdojeaahpjaaGreatDoor
set_option linter.unusedVariables false
set_option maxRecDepth 20000
open Go.RowKit Go.PlainOps

theorem add_len (T : Trc) (num : Nat) (work : Int) (par : Option Nat) (i : Ins) : (addV T num work par i).lasts.length = T.lasts.length + (if work = 0 then 1 else 0) ∧ (addV T num work par i).ends.length = T.ends.length + (if work = 0 then 1 else 0) ∧ (addV T num work par i).n = T.n + 1 := by
  unfold addV markT clearT openT
  cases par <;> simp only <;> (repeat' split) <;> simp
/-- A task's place, and its parent's. -/
structure Jn (T : Trc) (k : Nat) (t : Tk) (par : Option Nat) : Prop where
  two : T.lasts.length = T.ends.length
  num : (t.node.work = 0 ∧ t.number = (T.lasts.length : Int) ∧ T.lasts.length + 1 = k) ∨ (0 < t.node.work ∧ 0 ≤ t.number ∧ t.number < (T.lasts.length : Int) ∧ T.lasts.length = k)
  par : ∀ p, par = some p → p < T.lasts.length
theorem Jn.work {T : Trc} {k : Nat} {t : Tk} {par : Option Nat} (h : Jn T k t par) : 0 ≤ t.node.work := by rcases h.num with h | h <;> omega
/-- Behind an instruction that is shown. -/
theorem Jn.shown {T : Trc} {k : Nat} {t : Tk} {par : Option Nat} (h : Jn T k t par) (i : Ins) {t' : Tk} (hw : t'.node.work = t.node.work + 1) (hn : t'.number = t.number) : Jn (addV T t.number.toNat t.node.work par i) k t' par := by
  obtain ⟨h1, h2, h3⟩ := add_len T t.number.toNat t.node.work par i
  have h0 := h.two
  rcases h.num with ⟨a, b, c⟩ | ⟨a, b, c, d⟩
  · rw [if_pos a] at h1 h2
    refine ⟨by omega, .inr ⟨by omega, by rw [hn]; omega, by rw [hn]; omega, by omega⟩, fun p hp => by have := h.par p hp; omega⟩
  · rw [if_neg (by omega)] at h1 h2
    refine ⟨by omega, .inr ⟨by omega, by rw [hn]; omega, by rw [hn]; omega, by omega⟩, fun p hp => by have := h.par p hp; omega⟩
theorem Jn.len {T : Trc} {k : Nat} {t : Tk} {par : Option Nat} (h : Jn T k t par) (i : Ins) : (addV T t.number.toNat t.node.work par i).lasts.length = k ∧ (addV T t.number.toNat t.node.work par i).ends.length = k := by
  obtain ⟨h1, h2, h3⟩ := add_len T t.number.toNat t.node.work par i
  have h0 := h.two
  rcases h.num with ⟨a, b, c⟩ | ⟨a, b, c, d⟩
  · rw [if_pos a] at h1 h2; omega
  · rw [if_neg (by omega)] at h1 h2; omega
theorem Jn.child {fs : List Fn} {T : Trc} {k : Nat} {t : Tk} {par : Option Nat} (h : Jn T k t par) (i : Ins) : Jn (addV T t.number.toNat t.node.work par i) (k + 1) (enterT ⟨0, k, 0, []⟩ (childV fs (payT t) i)) (some t.number.toNat) := by
  obtain ⟨h1, h2⟩ := h.len i
  refine ⟨by omega, .inl ⟨rfl, by show ((k : Nat) : Int) = _; rw [h1], by omega⟩, fun p hp => ?_⟩
  obtain rfl := Option.some.inj hp
  rcases h.num with ⟨a, b, c⟩ | ⟨a, b, c, d⟩ <;> omega
theorem Jn.back {T T2 : Trc} {k k2 : Nat} {t t' : Tk} {par : Option Nat} (h : Jn T k t par) (hw : 0 < t'.node.work) (hn : t'.number = t.number) (h1 : T2.lasts.length = k2) (h2 : T2.ends.length = k2) (hk : k ≤ k2) : Jn T2 k2 t' par := by
  refine ⟨by omega, .inr ⟨hw, ?_, ?_, h1⟩, fun p hp => ?_⟩
  · rw [hn]; rcases h.num with ⟨a, b, c⟩ | ⟨a, b, c, d⟩ <;> omega
  · rw [hn]; rcases h.num with ⟨a, b, c⟩ | ⟨a, b, c, d⟩ <;> omega
  · have := h.par p hp
    rcases h.num with ⟨a, b, c⟩ | ⟨a, b, c, d⟩ <;> omega
theorem walk_len {fs : List Fn} : ∀ (g k : Nat) (T : Trc) (t : Tk) (par : Option Nat) (at_ : Nat) (v : Int) (k2 : Nat) (T2 : Trc), walkV fs g k T t par at_ = some (v, k2, T2) → Jn T k t par → T2.lasts.length = k2 ∧ T2.ends.length = k2 ∧ k ≤ k2
  | 0, k, T, t, par, at_, v, k2, T2, h, hj => by simp [walkV] at h
  | g + 1, k, T, t, par, at_, v, k2, T2, h, hj => by
    unfold walkV at h
    cases hc : (codeOf fs t.node.func)[at_]? with
    | none => rw [hc] at h; cases h
    | some i =>
      rw [hc] at h
      simp only at h
      by_cases k3 : i.kind = 3
      · rw [if_pos k3] at h
        exact walk_len g k _ _ par _ v k2 T2 h (hj.shown i rfl rfl)
      · rw [if_neg k3] at h
        by_cases k4 : i.kind = 4
        · rw [if_pos k4] at h
          exact walk_len g k _ _ par _ v k2 T2 h (hj.shown i rfl rfl)
        · rw [if_neg k4] at h
          by_cases k5 : i.kind = 5
          · rw [if_pos k5] at h
            cases hr : walkV fs g (k + 1) (addV T t.number.toNat t.node.work par i) (enterT ⟨0, k, 0, []⟩ (childV fs (payT t) i)) (some t.number.toNat) 0 with
            | none => rw [hr] at h; cases h
            | some x =>
              obtain ⟨v1, k1, T1⟩ := x
              rw [hr] at h
              simp only at h
              obtain ⟨q1, q2, q3⟩ := walk_len g (k + 1) _ _ _ 0 v1 k1 T1 hr (hj.child i)
              have hw := hj.work
              obtain ⟨r1, r2, r3⟩ := walk_len g k1 T1 _ par _ v k2 T2 h (hj.back (t' := gotT (spawnT (payT t)) i.a.toNat v1 0) (by show 0 < t.node.work + 1; omega) rfl q1 q2 (by omega))
              exact ⟨r1, r2, by omega⟩
          · rw [if_neg k5] at h
            by_cases k9 : i.kind = 9
            · rw [if_pos k9] at h
              injection h with h
              injection h with e1 e2
              injection e2 with e2 e3
              subst e2 e3
              obtain ⟨q1, q2⟩ := hj.len i
              exact ⟨q1, q2, Nat.le_refl _⟩
            · rw [if_neg k9] at h
              refine walk_len g k _ _ par _ v k2 T2 h (hj.shown i ?_ ?_)
              · unfold computeT
                repeat' split
                all_goals rfl
              · unfold computeT
                repeat' split
                all_goals rfl
end Go.Proofs.YtbdpdojeaahpjaaGreatDoor
/-! The document's own way to tell a run's dag, plainly: a task's last node and its children's ends are carried along. -/
namespace Go.Proofs.YtbdpdojeaahpjaaGreatDoor
set_option linter.unusedVariables false
set_option maxRecDepth 20000
open Go.RowKit Go.PlainOps

/-- The nodes ahead of a sync, by rising number: the instruction ahead of it among the children's ends. -/
def joinL : Option Nat → List Nat → List Nat
  | none, es => es
  | some f, [] => [f]
  | some f, e :: es => if f < e then f :: e :: es else e :: joinL (some f) es
theorem joinL_perm (f : Nat) : ∀ es : List Nat, (joinL (some f) es).Perm (f :: es)
  | [] => List.Perm.refl _
  | e :: es => by
    unfold joinL
    split
    · exact List.Perm.refl _
    · exact ((joinL_perm f es).cons e).trans (List.Perm.swap f e es)
theorem joinL_le {f x : Nat} : ∀ {es : List Nat}, (∀ y ∈ es, x ≤ y) → x ≤ f → ∀ y ∈ joinL (some f) es, x ≤ y := fun {es} h hf y hy => by
  have := (joinL_perm f es).mem_iff.1 hy
  rcases List.mem_cons.1 this with rfl | h1
  · exact hf
  · exact h y h1
theorem joinL_sorted (f : Nat) : ∀ {es : List Nat}, es.Pairwise (· ≤ ·) → (joinL (some f) es).Pairwise (· ≤ ·)
  | [], _ => List.pairwise_singleton _ _
  | e :: es, h => by
    have h1 := List.pairwise_cons.1 h
    unfold joinL
    split
    · rename_i hlt
      exact List.pairwise_cons.2 ⟨fun y hy => by rcases List.mem_cons.1 hy with rfl | hy; omega; have := h1.1 y hy; omega, h⟩
    · rename_i hlt
      exact List.pairwise_cons.2 ⟨joinL_le h1.1 (by omega), joinL_sorted f h1.2⟩
theorem sorted_eq : ∀ {a b : List Nat}, a.Pairwise (· ≤ ·) → b.Pairwise (· ≤ ·) → a.Perm b → a = b
  | [], b, _, _, h => by have := h.length_eq; cases b with | nil => rfl | cons _ _ => simp at this
  | x :: a, b, ha, hb, h => by
    cases b with
    | nil => have := h.length_eq; simp at this
    | cons y b =>
      have ha1 := List.pairwise_cons.1 ha
      have hb1 := List.pairwise_cons.1 hb
      have e : x = y := by
        have h1 : x ∈ y :: b := h.mem_iff.1 (List.mem_cons_self)
        have h2 : y ∈ x :: a := h.mem_iff.2 (List.mem_cons_self)
        rcases List.mem_cons.1 h1 with e | h1
        · exact e
        · rcases List.mem_cons.1 h2 with e | h2
          · exact e.symm
          · have := ha1.1 y h2
            have := hb1.1 x h1
            omega
      subst e
      rw [sorted_eq ha1.2 hb1.2 ((List.perm_cons x).1 h)]
theorem sortN_sorted (l : List Nat) : (sortN l).Pairwise (· ≤ ·) := by
  have h := List.pairwise_mergeSort (le := fun a b : Nat => decide (a ≤ b)) (fun a b c h1 h2 => by simp at h1 h2 ⊢; omega) (fun a b => by simp; omega) l
  exact h.imp (fun h => by simpa using h)
theorem joinL_none (es : List Nat) : joinL none es = es := by cases es <;> simp [joinL]
theorem sortN_join (fr : Option Nat) {es : List Nat} (h : es.Pairwise (· ≤ ·)) : sortN (fr.toList ++ es) = joinL fr es := by
  refine sorted_eq (sortN_sorted _) ?_ ((List.mergeSort_perm _ _).trans ?_)
  · cases fr with
    | none => rw [joinL_none]; exact h
    | some f => exact joinL_sorted f h
  · cases fr with
    | none => rw [joinL_none]; exact List.Perm.refl _
    | some f => exact (joinL_perm f es).symm
/-- A task from instruction 'at_' on, as the document tells it: how many tasks began (a ghost), the nodes and the edges so far, the node ahead, the ends of the children since the last sync. -/
def docV (fs : List Fn) : Nat → Nat → Nat → List (Nat × Nat) → Tk → Option Nat → List Nat → Nat → Option (Nat × Int × Nat × Nat × List (Nat × Nat))
  | 0, _, _, _, _, _, _, _ => none
  | g + 1, k, n, es, t, fr, en, at_ => match (codeOf fs t.node.func)[at_]? with
    | none => none
    | some i =>
      if i.kind = 3 then docV fs g k (n + 1) (es ++ fr.toList.map (fun f => (f, n))) (payT t) (some n) en i.a.toNat
      else if i.kind = 4 then docV fs g k (n + 1) (es ++ fr.toList.map (fun f => (f, n))) (payT t) (some n) en (if t.regs.getD i.a.toNat 0 = 0 then at_ + 1 else i.b.toNat)
      else if i.kind = 5 then match docV fs g (k + 1) (n + 1) (es ++ fr.toList.map (fun f => (f, n))) (enterT ⟨0, k, 0, []⟩ (childV fs (payT t) i)) (some n) [] 0 with
        | none => none
        | some (e, v, k2, n2, es2) => docV fs g k2 n2 es2 (gotT (spawnT (payT t)) i.a.toNat v 0) (some n) (en ++ [e]) (at_ + 1)
      else if i.kind = 9 then some (n, t.regs.getD i.a.toNat 0, k, n + 1, es ++ fr.toList.map (fun f => (f, n)))
      else docV fs g k (n + 1) (es ++ (if i.kind = 6 then joinL fr en else fr.toList).map (fun f => (f, n))) (computeT (payT t) i) (some n) (if i.kind = 6 then [] else en) (at_ + 1)

/-! ### What 'add' does to the places of the trace -/
theorem getD_set_same {α : Type} (l : List α) (k : Nat) (x d : α) (h : k < l.length) : (l.set k x).getD k d = x := by simp [List.getD_eq_getElem?_getD, h]
theorem getD_set_other {α : Type} (l : List α) (k q : Nat) (x d : α) (h : q ≠ k) : (l.set k x).getD q d = l.getD q d := by
  simp [List.getD_eq_getElem?_getD, Ne.symm h]
theorem getD_app_left {α : Type} (l m : List α) (q : Nat) (d : α) (h : q < l.length) : (l ++ m).getD q d = l.getD q d := by simp [List.getD_eq_getElem?_getD, List.getElem?_append_left h]
theorem getD_app_last {α : Type} (l : List α) (x d : α) : (l ++ [x]).getD l.length d = x := by simp [List.getD_eq_getElem?_getD]
/-- Where a task stands. -/
structure Rl (T : Trc) (t : Tk) (par : Option Nat) (fr : Option Nat) (en : List Nat) : Prop where
  zero : t.node.work = 0 → fr = par.map (fun p => T.lasts.getD p 0) ∧ en = []
  pos : 0 < t.node.work → fr = some (T.lasts.getD t.number.toNat 0) ∧ en = T.ends.getD t.number.toNat []
  up : en.Pairwise (· ≤ ·)
  lt : ∀ e ∈ en, e < T.n
  par : ∀ p, par = some p → p < t.number.toNat
structure Aft (T T' : Trc) (num : Nat) (par : Option Nat) (i : Ins) (fr : Option Nat) (en : List Nat) : Prop where
  n : T'.n = T.n + 1
  es : T'.es = T.es ++ (if i.kind = 6 then joinL fr en else fr.toList).map (fun f => (f, T.n))
  own : T'.lasts.getD num 0 = T.n
  las : ∀ q, q < T.lasts.length → q ≠ num → T'.lasts.getD q 0 = T.lasts.getD q 0
  eown : i.kind ≠ 9 → T'.ends.getD num [] = if i.kind = 6 then [] else en
  eoth : ∀ q, q < T.ends.length → q ≠ num → some q ≠ par → T'.ends.getD q [] = T.ends.getD q []
  epar : ∀ p, par = some p → i.kind ≠ 9 → T'.ends.getD p [] = T.ends.getD p []
  eend : ∀ p, par = some p → i.kind = 9 → T'.ends.getD p [] = T.ends.getD p [] ++ [T.n]
theorem froms_is {U : Trc} {num : Nat} {work : Int} {par fr : Option Nat} {en : List Nat} {i : Ins} (hz : work = 0 → fr = par.map (fun p => U.lasts.getD p 0)) (hp : work ≠ 0 → fr = some (U.lasts.getD num 0)) (he : U.ends.getD num [] = en) (hs : en.Pairwise (· ≤ ·)) :
    fromsV U num work par i = if i.kind = 6 then joinL fr en else fr.toList := by
  have key : ∀ fl : List Nat, fl = fr.toList → (if i.kind = 6 then sortN (fl ++ U.ends.getD num []) else fl) = if i.kind = 6 then joinL fr en else fr.toList := by
    rintro _ rfl
    rw [he]
    split
    · exact sortN_join fr hs
    · rfl
  unfold fromsV
  refine key _ ?_
  by_cases hw : work = 0
  · rw [if_pos hw, hz hw]; cases par <;> rfl
  · rw [if_neg hw, hp hw]; rfl
theorem add_aft {T : Trc} {k : Nat} {t : Tk} {par fr : Option Nat} {en : List Nat} (hj : Jn T k t par) (h : Rl T t par fr en) (i : Ins) : Aft T (addV T t.number.toNat t.node.work par i) t.number.toNat par i fr en := by
  obtain ⟨num, hnum⟩ : ∃ num, num = t.number.toNat := ⟨_, rfl⟩
  have h2 := hj.two
  have hp1 := hj.par
  have hp2 := h.par
  rw [← hnum] at hp2 ⊢
  -- what the trace is once the task has its place
  obtain ⟨U, hU⟩ : ∃ U, U = openT T t.node.work := ⟨_, rfl⟩
  have hUn : U.n = T.n ∧ U.es = T.es := by rw [hU]; unfold openT; split <;> exact ⟨rfl, rfl⟩
  have hU2 : U.lasts.length = U.ends.length ∧ num < U.lasts.length ∧ (∀ q, q < T.lasts.length → U.lasts.getD q 0 = T.lasts.getD q 0) ∧ (∀ q, q < T.ends.length → U.ends.getD q [] = T.ends.getD q []) ∧ U.ends.getD num [] = en ∧ T.lasts.length ≤ U.lasts.length := by
    rcases hj.num with ⟨a, b, c⟩ | ⟨a, b, c, d⟩
    · rw [hU]
      unfold openT
      rw [if_pos a]
      have e : num = T.lasts.length := by omega
      refine ⟨by simp [h2], by simp [e], fun q hq => getD_app_left _ _ _ _ hq, fun q hq => getD_app_left _ _ _ _ hq, ?_, by simp⟩
      rw [(h.zero a).2, e, h2]
      exact getD_app_last _ _ _
    · rw [hU]
      unfold openT
      rw [if_neg (by omega)]
      refine ⟨h2, by omega, fun _ _ => rfl, fun _ _ => rfl, ?_, Nat.le_refl _⟩
      rw [(h.pos a).2, hnum]
  obtain ⟨u1, u2, u3, u4, u5, u6⟩ := hU2
  have hfr : (fromsV U num t.node.work par i) = if i.kind = 6 then joinL fr en else fr.toList := by
    refine froms_is (fun a => ?_) (fun a => ?_) u5 h.up
    · rw [(h.zero a).1]
      cases hp : par with
      | none => rfl
      | some p => show some (T.lasts.getD p 0) = some (U.lasts.getD p 0); rw [u3 p (hp1 p hp)]
    · have a' : 0 < t.node.work := by have := hj.work; omega
      rw [(h.pos a').1, ← hnum]
      rcases hj.num with ⟨x, _⟩ | ⟨_, b, c, d⟩
      · exact absurd x a
      · rw [u3 num (by omega)]
  unfold addV
  rw [← hU, hfr]
  obtain ⟨C, hC⟩ : ∃ C, C = clearT U num i := ⟨_, rfl⟩
  have hC2 : C.n = T.n ∧ C.es = T.es ∧ C.lasts = U.lasts ∧ C.ends.length = U.ends.length ∧ (∀ q, q ≠ num → C.ends.getD q [] = U.ends.getD q []) ∧ C.ends.getD num [] = if i.kind = 6 then [] else en := by
    rw [hC]
    unfold clearT
    split
    · refine ⟨hUn.1, hUn.2, rfl, by simp, fun q hq => getD_set_other _ _ _ _ _ hq, getD_set_same _ _ _ _ (by omega)⟩
    · exact ⟨hUn.1, hUn.2, rfl, rfl, fun _ _ => rfl, u5⟩
  obtain ⟨c1, c2, c3, c4, c5, c6⟩ := hC2
  rw [← hC]
  have hl : ∀ q, q < T.lasts.length → q ≠ num → (C.lasts.set num C.n).getD q 0 = T.lasts.getD q 0 := fun q hq hn => by rw [getD_set_other _ _ _ _ _ hn, c3, u3 q hq]
  have ho : (C.lasts.set num C.n).getD num 0 = T.n := by rw [getD_set_same _ _ _ _ (by rw [c3]; exact u2), c1]
  have hq' : ∀ q, q < T.ends.length → q ≠ num → C.ends.getD q [] = T.ends.getD q [] := fun q hq hn => by rw [c5 q hn, u4 q hq]
  unfold markT
  cases hpar : par with
  | none =>
    simp only
    refine ⟨by simp [c1], by simp [c1, c2], ho, hl, fun _ => c6, fun q hq hn _ => hq' q hq hn, fun p e => (by cases e), fun p e => (by cases e)⟩
  | some p =>
    have hpl : p < T.ends.length := by rw [← h2]; exact hp1 p hpar
    have hpn : p ≠ num := by have := hp2 p hpar; omega
    simp only
    split
    · rename_i k9
      refine ⟨by simp [c1], by simp [c1, c2], ho, hl, fun e => absurd k9 e, fun q hq hn hqp => ?_, fun q e e9 => absurd k9 e9, fun q e _ => ?_⟩
      · show (C.ends.set p _).getD q [] = _
        rw [getD_set_other _ _ _ _ _ (fun e => hqp (by rw [e])), hq' q hq hn]
      · injection e with e
        subst e
        show (C.ends.set p _).getD p [] = _
        rw [getD_set_same _ _ _ _ (by omega)]
        show C.ends.getD p [] ++ [C.n] = _
        rw [hq' p hpl hpn, c1]
    · rename_i k9
      exact ⟨by simp [c1], by simp [c1, c2], ho, hl, fun _ => c6, fun q hq hn _ => hq' q hq hn, fun q e _ => by injection e with e; subst e; exact hq' p hpl hpn, fun q _ e9 => absurd e9 k9⟩
/-- What a task leaves of the other tasks' places: its parent has its end. -/
structure Beh (T T2 : Trc) (num : Nat) (par : Option Nat) : Prop where
  las : ∀ q, q < T.lasts.length → q ≠ num → T2.lasts.getD q 0 = T.lasts.getD q 0
  oth : ∀ q, q < T.ends.length → q ≠ num → some q ≠ par → T2.ends.getD q [] = T.ends.getD q []
  par : ∀ p, par = some p → T2.ends.getD p [] = T.ends.getD p [] ++ [T2.n - 1]
  pos : T.n < T2.n
theorem Rl.next {T T' : Trc} {t t' : Tk} {par fr : Option Nat} {en : List Nat} {i : Ins} (h : Rl T t par fr en) (A : Aft T T' t.number.toNat par i fr en) (k9 : i.kind ≠ 9) (hw : 0 < t'.node.work) (hn : t'.number = t.number) : Rl T' t' par (some T.n) (if i.kind = 6 then [] else en) := by
  refine ⟨fun e => by omega, fun _ => ⟨by rw [hn, A.own], by rw [hn, A.eown k9]⟩, ?_, fun e he => ?_, fun p hp => by rw [hn]; exact h.par p hp⟩
  · split
    · exact List.Pairwise.nil
    · exact h.up
  · rw [A.n]
    split at he
    · cases he
    · have := h.lt e he; omega
theorem Beh.step {T T' T2 : Trc} {t : Tk} {k : Nat} {par fr : Option Nat} {en : List Nat} {i : Ins} (hj : Jn T k t par) (A : Aft T T' t.number.toNat par i fr en) (hl : T.lasts.length ≤ T'.lasts.length ∧ T.ends.length ≤ T'.ends.length) (k9 : i.kind ≠ 9) (B : Beh T' T2 t.number.toNat par) : Beh T T2 t.number.toNat par :=
  ⟨fun q hq hn => by rw [B.las q (by omega) hn, A.las q hq hn], fun q hq hn hp => by rw [B.oth q (by omega) hn hp, A.eoth q hq hn hp], fun p hp => by rw [B.par p hp, A.epar p hp k9], by have := B.pos; have := A.n; omega⟩
theorem walk_doc {fs : List Fn} : ∀ (g k : Nat) (T : Trc) (t : Tk) (par : Option Nat) (at_ : Nat) (v : Int) (k2 : Nat) (T2 : Trc) (fr : Option Nat) (en : List Nat), walkV fs g k T t par at_ = some (v, k2, T2) → Jn T k t par → Rl T t par fr en →
    docV fs g k T.n T.es t fr en at_ = some (T2.n - 1, v, k2, T2.n, T2.es) ∧ Beh T T2 t.number.toNat par
  | 0, k, T, t, par, at_, v, k2, T2, fr, en, h, hj, hr => by simp [walkV] at h
  | g + 1, k, T, t, par, at_, v, k2, T2, fr, en, h, hj, hr => by
    unfold walkV at h
    unfold docV
    cases hc : (codeOf fs t.node.func)[at_]? with
    | none => rw [hc] at h; cases h
    | some i =>
      rw [hc] at h
      simp only at h ⊢
      have A := add_aft hj hr i
      have hw := hj.work
      have hl : T.lasts.length ≤ (addV T t.number.toNat t.node.work par i).lasts.length ∧ T.ends.length ≤ (addV T t.number.toNat t.node.work par i).ends.length := by
        obtain ⟨a1, a2, a3⟩ := add_len T t.number.toNat t.node.work par i
        omega
      have hgo : ∀ (t' : Tk) (at' : Nat), i.kind ≠ 9 → t'.node.work = t.node.work + 1 → t'.number = t.number → walkV fs g k (addV T t.number.toNat t.node.work par i) t' par at' = some (v, k2, T2) → docV fs g k (T.n + 1) (T.es ++ (if i.kind = 6 then joinL fr en else fr.toList).map (fun f => (f, T.n))) t' (some T.n) (if i.kind = 6 then [] else en) at' = some (T2.n - 1, v, k2, T2.n, T2.es) ∧ Beh T T2 t.number.toNat par := fun t' at' k9 hw' hn h' => by
        have q := walk_doc g k _ t' par at' v k2 T2 (some T.n) (if i.kind = 6 then [] else en) h' (hj.shown i hw' hn) (hr.next A k9 (by omega) hn)
        rw [A.n, A.es, hn] at q
        exact ⟨q.1, Beh.step hj A hl k9 q.2⟩
      by_cases k3 : i.kind = 3
      · rw [if_pos k3] at h ⊢
        have q := hgo (payT t) i.a.toNat (by omega) rfl rfl h
        rw [if_neg (by omega), if_neg (by omega)] at q
        exact q
      · rw [if_neg k3] at h ⊢
        by_cases k4 : i.kind = 4
        · rw [if_pos k4] at h ⊢
          have q := hgo (payT t) _ (by omega) rfl rfl h
          rw [if_neg (by omega), if_neg (by omega)] at q
          exact q
        · rw [if_neg k4] at h ⊢
          by_cases k5 : i.kind = 5
          · rw [if_pos k5] at h ⊢
            cases hx : walkV fs g (k + 1) (addV T t.number.toNat t.node.work par i) (enterT ⟨0, k, 0, []⟩ (childV fs (payT t) i)) (some t.number.toNat) 0 with
            | none => rw [hx] at h; cases h
            | some x =>
              obtain ⟨v1, k1, T1⟩ := x
              rw [hx] at h
              simp only at h
              have hlen := hj.len i
              have hnk : t.number.toNat < k := by rcases hj.num with ⟨a, b, c⟩ | ⟨a, b, c, d⟩ <;> omega
              have hTk : T.lasts.length ≤ k := by rcases hj.num with ⟨a, b, c⟩ | ⟨a, b, c, d⟩ <;> omega
              have hcn : (enterT ⟨0, k, 0, []⟩ (childV fs (payT t) i)).number.toNat = k := by show ((k : Nat) : Int).toNat = k; omega
              have e6 : ¬ i.kind = 6 := by omega
              have k9 : i.kind ≠ 9 := by omega
              have qc := walk_doc g (k + 1) _ _ _ 0 v1 k1 T1 (some T.n) [] hx (hj.child i) ⟨fun _ => ⟨by rw [Option.map_some, A.own], rfl⟩, fun e => absurd e (by show ¬ (0 : Int) < 0; omega), List.Pairwise.nil, (fun e he => by cases he), fun p hp => by obtain rfl := Option.some.inj hp; rw [hcn]; exact hnk⟩
              rw [A.n, A.es, if_neg e6, hcn] at qc
              obtain ⟨qc1, B1⟩ := qc
              rw [qc1]
              simp only
              obtain ⟨w1, w2, w3⟩ := walk_len g (k + 1) _ _ _ 0 v1 k1 T1 hx (hj.child i)
              have hp1 := B1.pos
              rw [A.n] at hp1
              have hR : Rl T1 (gotT (spawnT (payT t)) i.a.toNat v1 0) par (some T.n) (en ++ [T1.n - 1]) := by
                refine ⟨fun e => absurd e (by show ¬ t.node.work + 1 = 0; omega), fun _ => ⟨?_, ?_⟩, ?_, fun e he => ?_, hr.par⟩
                · show some T.n = some (T1.lasts.getD t.number.toNat 0)
                  rw [B1.las _ (by omega) (by omega), A.own]
                · show en ++ [T1.n - 1] = T1.ends.getD t.number.toNat []
                  rw [B1.par _ rfl, A.eown k9, if_neg e6]
                · refine List.pairwise_append.2 ⟨hr.up, List.pairwise_singleton _ _, fun x hx y hy => ?_⟩
                  have := hr.lt x hx
                  simp at hy
                  omega
                · rcases List.mem_append.1 he with he | he
                  · have := hr.lt e he; omega
                  · simp at he; omega
              have q2 := walk_doc g k1 T1 _ par (at_ + 1) v k2 T2 (some T.n) (en ++ [T1.n - 1]) h (hj.back (t' := gotT (spawnT (payT t)) i.a.toNat v1 0) (by show 0 < t.node.work + 1; omega) rfl w1 w2 (by omega)) hR
              refine ⟨q2.1, ?_⟩
              have B2 : Beh T1 T2 t.number.toNat par := q2.2
              have h2 := hj.two
              refine ⟨fun q hq hn => ?_, fun q hq hn hp => ?_, fun p hp => ?_, by have := B2.pos; omega⟩
              · rw [B2.las q (by omega) hn, B1.las q (by omega) (by omega), A.las q hq hn]
              · rw [B2.oth q (by omega) hn hp, B1.oth q (by omega) (by omega) (fun e => hn (Option.some.inj e)), A.eoth q hq hn hp]
              · have hpl := hj.par p hp
                have hpn := hr.par p hp
                rw [B2.par p hp, B1.oth p (by omega) (by omega) (fun e => by have := Option.some.inj e; omega), A.epar p hp k9]
          · rw [if_neg k5] at h ⊢
            by_cases k9 : i.kind = 9
            · rw [if_pos k9] at h ⊢
              injection h with h
              injection h with e1 e2
              injection e2 with e2 e3
              subst e1 e2 e3
              have hn := A.n
              refine ⟨by rw [A.n, A.es, if_neg (by omega)]; rfl, ⟨A.las, A.eoth, fun p hp => by rw [A.eend p hp k9, hn]; rfl, by omega⟩⟩
            · rw [if_neg k9] at h ⊢
              refine hgo _ _ k9 ?_ ?_ h
              · unfold computeT
                repeat' split
                all_goals rfl
              · unfold computeT
                repeat' split
                all_goals rfl
/-- A whole run. -/
theorem run_doc {fs : List Fn} {g : Nat} {zs : List Int} {v : Int} {k2 : Nat} {T2 : Trc} (h : walkV fs g 1 trc0 (enterT ⟨0, 0, 0, []⟩ (rootT zs)) none 0 = some (v, k2, T2)) : docV fs g 1 0 [] (enterT ⟨0, 0, 0, []⟩ (rootT zs)) none [] 0 = some (T2.n - 1, v, k2, T2.n, T2.es) :=
  (walk_doc g 1 trc0 _ none 0 v k2 T2 none [] h ⟨rfl, .inl ⟨rfl, rfl, rfl⟩, fun p e => by cases e⟩ ⟨fun _ => ⟨rfl, rfl⟩, fun e => absurd e (by show ¬ (0 : Int) < 0; omega), List.Pairwise.nil, (fun e he => by cases he), fun p e => by cases e⟩).1
end Go.Proofs.YtbdpdojeaahpjaaGreatDoor
/-! The document's walk over a run, plainly: what an instruction may touch of its own function's registers; how the nodes and the edges grow. -/
namespace Go.Proofs.YtbdpdojeaahpjaaGreatDoor
set_option linter.unusedVariables false
set_option maxRecDepth 20000
open Go.RowKit Go.PlainOps

structure StepIn (fs : List Fn) (f : Fn) (i : Ins) : Prop where
  reg : i.kind ≠ 3 → i.kind ≠ 5 → i.kind ≠ 6 → 0 ≤ i.a ∧ i.a < f.regs
  regb : i.kind = 1 ∨ i.kind = 2 → 0 ≤ i.b ∧ i.b < f.regs
  regc : i.kind = 2 → 0 ≤ i.c ∧ i.c < f.regs
  slot : i.kind = 5 → 0 ≤ i.a ∧ i.a < f.slots
  load : i.kind = 7 → 0 ≤ i.b ∧ i.b < f.slots
  args : i.kind = 5 → parV fs i.b = 0 ∨ (0 ≤ i.c ∧ i.c + parV fs i.b ≤ f.regs)
theorem step_in {fs : List Fn} {f : Fn} {at_ : Nat} {i : Ins} (hV : Valid fs f) (hi : f.code[at_]? = some i) : StepIn fs f i := by
  have hf := (code_parts hV.code).1 _ _ hi
  obtain ⟨w1, w2, w3⟩ := fits_ways hf
  have hk := fits_kind hf
  obtain ⟨k, a, b, c, K⟩ := i
  simp only at hk w1 w2 w3 ⊢
  rcases kinds (i := ⟨k, a, b, c, K⟩) hk.1 hk.2 with e | e | e | e | e | e | e | e | e | e
  all_goals
    simp only at e
    subst e
    simp [fA, fB, fC, allowsV, belowV, holdsV] at w1 w2 w3
    refine ⟨?_, ?_, ?_, ?_, ?_, ?_⟩ <;> simp <;> first | done | omega
/-- How a walk grows. -/
theorem doc_up {fs : List Fn} : ∀ (g k n : Nat) (es : List (Nat × Nat)) (t : Tk) (fr : Option Nat) (en : List Nat) (at_ : Nat) (e : Nat) (v : Int) (k2 n2 : Nat) (es2 : List (Nat × Nat)), docV fs g k n es t fr en at_ = some (e, v, k2, n2, es2) →
    e + 1 = n2 ∧ n < n2 ∧ es2.length + 1 ≤ es.length + en.length + 2 * (n2 - n)
  | 0, k, n, es, t, fr, en, at_, e, v, k2, n2, es2, h => by simp [docV] at h
  | g + 1, k, n, es, t, fr, en, at_, e, v, k2, n2, es2, h => by
    have hfr : fr.toList.length ≤ 1 := by cases fr <;> simp
    have hfm : (fr.toList.map (fun f => (f, n))).length ≤ 1 := by rw [List.length_map]; exact hfr
    unfold docV at h
    split at h
    · cases h
    · rename_i i hi
      split at h
      · have q := doc_up g _ _ _ _ _ _ _ _ _ _ _ _ h
        rw [List.length_append] at q
        omega
      · split at h
        · have q := doc_up g _ _ _ _ _ _ _ _ _ _ _ _ h
          rw [List.length_append] at q
          omega
        · split at h
          · split at h
            · cases h
            · rename_i e1 v1 k1 n1 es1 hx
              have q1 := doc_up g _ _ _ _ _ _ _ _ _ _ _ _ hx
              have q := doc_up g _ _ _ _ _ _ _ _ _ _ _ _ h
              rw [List.length_append] at q1
              rw [List.length_append, List.length_singleton] at q
              rw [List.length_nil] at q1
              omega
          · split at h
            · injection h with h
              injection h with h1 h
              injection h with h2 h
              injection h with h3 h
              injection h with h4 h5
              subst h1 h4 h5
              rw [List.length_append]
              omega
            · have q := doc_up g _ _ _ _ _ _ _ _ _ _ _ _ h
              rw [List.length_append, List.length_map] at q
              have hj : (joinL fr en).length ≤ en.length + 1 := by
                cases fr with
                | none => rw [joinL_none]; omega
                | some f => have := (joinL_perm f en).length_eq; simp at this; omega
              by_cases k6 : i.kind = 6
              · rw [if_pos k6, if_pos k6, List.length_nil] at q
                omega
              · rw [if_neg k6, if_neg k6] at q
                omega
end Go.Proofs.YtbdpdojeaahpjaaGreatDoor
