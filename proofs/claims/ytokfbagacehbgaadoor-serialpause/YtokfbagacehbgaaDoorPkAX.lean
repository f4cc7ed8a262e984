import Derived.Test.YtokfbagacehbgaaDoorPkAW
import Derived.Test.YtokfbagacehbgaaDoorPkAV
import Derived.Laws.StructEq
/-! A run with a sync ahead of each task. -/
namespace Go.Proofs.YtokfbagacehbgaaDoor
set_option linter.unusedVariables false
set_option maxRecDepth 20000
open Go.RowKit Go.PlainOps

theorem loop_tasks {fs : List Fn} {L : Bool} : ∀ (g : Nat) (s : Rn) (t : Tk) (at_ : Nat) (v sp : Int) (s2 : Rn), loopV fs L g s t at_ = .done v sp s2 → s.tasks ≤ s2.tasks
  | 0, s, t, at_, v, sp, s2, h => by simp [loopV] at h
  | g + 1, s, t, at_, v, sp, s2, h => by
    unfold loopV at h
    split at h
    · cases h
    · split at h
      · cases h
      · split at h
        · exact loop_tasks g (payS s) _ _ v sp s2 h
        · split at h
          · exact loop_tasks g (payS s) _ _ v sp s2 h
          · split at h
            · split at h
              · cases h
              · split at h
                · cases h
                · rename_i v1 sp1 s1 hr
                  have h1 := loop_tasks g _ _ 0 v1 sp1 s1 hr
                  have h2 := loop_tasks g _ _ _ v sp s2 h
                  have h3 : s.tasks + 1 ≤ s1.tasks := h1
                  omega
            · split at h
              · exact loop_tasks g (payS s) _ _ v sp s2 h
              · split at h
                · injection h with e1 e2 e3
                  subst e3
                  exact Nat.le_refl _
                · exact loop_tasks g (payS s) _ _ v sp s2 h
structure RelP (l : List Fn) (t t' : Tk) : Prop where
  regs : t'.regs = t.regs
  slots : t'.slots = t.slots
  func : t'.node.func = t.node.func
  ped : t'.node.ped = t.node.ped
  spawned : t'.spawned = t.spawned
  fun0 : 0 ≤ t.node.func ∧ t.node.func < l.length
  dep : t'.depth = t.depth
  span : 0 ≤ t.span ∧ t.span + 1 ≤ t'.span
  due : 0 ≤ t.due ∧ (t.due = 0 ∨ t.due + 1 ≤ t'.due)
theorem RelP.pay {l : List Fn} {t t' : Tk} (h : RelP l t t') : RelP l (payT t) (payT t') := ⟨h.regs, h.slots, h.func, h.ped, h.spawned, h.fun0, h.dep, by have := h.span; simp only [payT]; omega, h.due⟩
theorem RelP.wait {l : List Fn} {t t' : Tk} (h : RelP l t t') (ht : 1 ≤ t.span) : RelP l (waitT t) (waitT t') := by
  have h1 := h.span
  have h2 := h.due
  refine ⟨h.regs, h.slots, h.func, h.ped, h.spawned, h.fun0, h.dep, ?_, h.due⟩
  simp only [waitT, imax]
  repeat' split
  all_goals omega
theorem RelP.got {l : List Fn} {t t' : Tk} (h : RelP l t t') (ht : 1 ≤ t.span) (a : Nat) (v : Int) {sp sp' : Int} (h0 : 1 ≤ sp) (hsp : sp + 1 ≤ sp') : RelP l (gotT (spawnT t) a v sp) (gotT (spawnT t') a v sp') := by
  have h1 := h.span
  have h2 := h.due
  refine ⟨h.regs, by show t'.slots.set a v = t.slots.set a v; rw [h.slots], h.func, h.ped, by show t'.spawned + 1 = t.spawned + 1; rw [h.spawned], h.fun0, h.dep, h.span, ?_⟩
  simp only [gotT, spawnT, imax]
  repeat' split
  all_goals omega
theorem RelP.setR {l : List Fn} {t t' : Tk} (h : RelP l t t') (a : Nat) (x : Int) : RelP l (setR t a x) (setR t' a x) :=
  ⟨by show t'.regs.set a x = t.regs.set a x; rw [h.regs], h.slots, h.func, h.ped, h.spawned, h.fun0, h.dep, h.span, h.due⟩
theorem RelP.comp {l : List Fn} {t t' : Tk} (h : RelP l t t') (i : Ins) : RelP l (computeT t i) (computeT t' i) := by
  unfold computeT
  rw [h.regs, h.slots, h.ped]
  repeat' split
  all_goals first
    | exact h.setR _ _
    | exact h
theorem codeP {l : List Fn} {f : Int} : codeOf (pauseL l) f = ((l[f.toNat]?).map fun g => syncI :: g.code.map shI).getD [] := by
  unfold codeOf pauseL
  rw [List.getElem?_map]
  cases l[f.toNat]? <;> rfl
theorem loop_pause {l : List Fn} (hA : AllV l) : ∀ (g : Nat) (s : Rn) (t : Tk) (at_ : Nat) (v sp : Int) (s2 : Rn), loopV l false g s t at_ = .done v sp s2 → ∀ (G d : Nat) (s' : Rn) (t' : Tk), 2 * g ≤ G → s'.fuel = s.fuel + d → s2.tasks - s.tasks ≤ d → RelP l t t' → s'.depth = s.depth →
    ∃ sp' s2', loopV (pauseL l) false G s' t' (at_ + 1) = .done v sp' s2' ∧ s2'.fuel + (s2.tasks - s.tasks) = s2.fuel + d ∧ s2'.tasks + s.tasks = s2.tasks + s'.tasks ∧ 1 ≤ sp ∧ sp + 1 ≤ sp' ∧ s2'.depth = s2.depth
  | 0, s, t, at_, v, sp, s2, h, G, d, s', t', hG, hf, hd, hS, hdp => by simp [loopV] at h
  | g + 1, s, t, at_, v, sp, s2, h, G, d, s', t', hG, hf, hd, hS, hdp => by
    by_cases h0 : s.fuel = 0
    · rw [loop_out h0] at h; cases h
    · have h0' : s'.fuel ≠ 0 := by omega
      have hpf : (payS s').fuel = (payS s).fuel + d := by simp [payS]; omega
      obtain ⟨f, hfl, hfm, hcf, hV, hok⟩ := hA.fn hS.fun0
      have hcs : codeOf (pauseL l) t'.node.func = syncI :: f.code.map shI := by rw [hS.func, codeP, hfl]; rfl
      obtain ⟨G1, rfl⟩ : ∃ G1, G = G1 + 1 := ⟨G - 1, by omega⟩
      cases hi : f.code[at_]? with
      | none =>
        have hic : (codeOf l t.node.func)[at_]? = none := by rw [hcf]; exact hi
        exfalso
        unfold loopV at h
        rw [if_neg h0, hic] at h
        cases h
      | some i =>
        have hic : (codeOf l t.node.func)[at_]? = some i := by rw [hcf]; exact hi
        have hic' : (codeOf (pauseL l) t'.node.func)[at_ + 1]? = some (shI i) := by rw [hcs, List.getElem?_cons_succ, List.getElem?_map, hi]; rfl
        have so := step_ok hV hi
        have hcases : i.kind = 3 ∨ i.kind = 4 ∨ i.kind = 5 ∨ i.kind = 6 ∨ i.kind = 9 ∨ (i.kind = 0 ∨ i.kind = 1 ∨ i.kind = 2 ∨ i.kind = 7 ∨ i.kind = 8) := by have := so.kind; omega
        rcases hcases with hk | hk | hk | hk | hk | hk
        · rw [loop_jump h0 hic hk] at h
          rw [loop_jump h0' hic' (by rw [shI_kind]; exact hk), shI_a3 hk]
          have hj := so.jump hk
          rw [show (i.a + 1).toNat = i.a.toNat + 1 by omega]
          exact loop_pause hA g _ _ _ v sp s2 h G1 d _ _ (by omega) hpf hd hS.pay hdp
        · rw [loop_branch h0 hic hk] at h
          rw [loop_branch h0' hic' (by rw [shI_kind]; exact hk), shI_a (by omega), shI_b4 hk, hS.regs]
          have hj := so.branch hk
          have e : (if t.regs.getD i.a.toNat 0 = 0 then at_ + 1 + 1 else (i.b + 1).toNat) = (if t.regs.getD i.a.toNat 0 = 0 then at_ + 1 else i.b.toNat) + 1 := by
            split
            · rfl
            · omega
          rw [e]
          exact loop_pause hA g _ _ _ v sp s2 h G1 d _ _ (by omega) hpf hd hS.pay hdp
        · rw [loop_spawn h0 hic hk] at h
          rw [loop_spawn h0' hic' (by rw [shI_kind]; exact hk), shI_a (by omega)]
          cases hpl : playV l false g (payS s) (childV l (payT t) i) with
          | gave x => rw [hpl] at h; cases h
          | done v1 sp1 s1 =>
            rw [hpl] at h
            simp only at h
            unfold playV at hpl ⊢
            have hcd : (childV (pauseL l) (payT t') (shI i)).depth = (childV l (payT t) i).depth := by show t'.depth + 1 = t.depth + 1; rw [hS.dep]
            by_cases hdd : 4096 < (childV l (payT t) i).depth
            · rw [if_pos hdd] at hpl; cases hpl
            · rw [if_neg hdd] at hpl
              rw [if_neg (by rw [hcd]; exact hdd)]
              have ht1 := loop_tasks g _ _ 0 v1 sp1 s1 hpl
              have ht2 := loop_tasks g _ _ _ v sp s2 h
              have ht1' : s.tasks + 1 ≤ s1.tasks := ht1
              have hb := so.fn hk
              obtain ⟨f2, hf2, _, hcf2, hV2, _⟩ := hA.fn hb
              obtain ⟨G2, rfl⟩ : ∃ G2, G1 = G2 + 1 := ⟨G1 - 1, by omega⟩
              have hcode : (codeOf (pauseL l) (enterT (payS s') (childV (pauseL l) (payT t') (shI i))).node.func)[0]? = some syncI := by
                show (codeOf (pauseL l) (shI i).b)[0]? = some syncI
                rw [shI_b (by omega), codeP, hf2]
                rfl
              have hfu : (enterS false (payS s') (childV (pauseL l) (payT t') (shI i))).fuel ≠ 0 := by show (payS s').fuel ≠ 0; simp only [payS]; omega
              rw [loop_sync hfu hcode rfl]
              have hrel : RelP l (enterT (payS s) (childV l (payT t) i)) (waitT (payT (enterT (payS s') (childV (pauseL l) (payT t') (shI i))))) := by
                refine ⟨?_, rfl, ?_, ?_, rfl, hb, hcd, ⟨Int.le_refl _, ?_⟩, ⟨Int.le_refl _, .inl rfl⟩⟩
                · show argsV t'.regs (shI i).c.toNat (parV (pauseL l) (shI i).b).toNat = argsV t.regs i.c.toNat (parV l i.b).toNat
                  rw [hS.regs, shI_c, shI_b (by omega), par_pause]
                · show (shI i).b = i.b
                  exact shI_b (by omega)
                · show pedV t'.node.ped t'.spawned = pedV t.node.ped t.spawned
                  rw [hS.ped, hS.spawned]
                · show (0 : Int) + 1 ≤ imax (0 + 1) (0 + 1)
                  simp [imax]
              obtain ⟨sp1', s1', q1, q2, q3, q4, q5, q6⟩ := loop_pause hA g _ _ 0 v1 sp1 s1 hpl G2 (d - 1) (payS (enterS false (payS s') (childV (pauseL l) (payT t') (shI i)))) _ (by omega) (by show (payS s').fuel - 1 = (payS s).fuel + (d - 1); omega) (by show s1.tasks - (s.tasks + 1) ≤ d - 1; omega) hrel (by show imax s'.depth (childV (pauseL l) (payT t') (shI i)).depth = imax s.depth (childV l (payT t) i).depth; rw [hdp, hcd])
              rw [q1]
              simp only
              have q2' : s1'.fuel + (s1.tasks - (s.tasks + 1)) = s1.fuel + (d - 1) := q2
              have q3' : s1'.tasks + (s.tasks + 1) = s1.tasks + (s'.tasks + 1) := q3
              obtain ⟨sp2', s2', r1, r2, r3, r4, r5, r6⟩ := loop_pause hA g s1 _ _ v sp s2 h (G2 + 1) (d - (s1.tasks - s.tasks)) s1' (gotT (spawnT (payT t')) i.a.toNat v1 sp1') (by omega) (by omega) (by omega) (hS.pay.got (by have := hS.span; simp only [payT]; omega) i.a.toNat v1 q4 q5) q6
              exact ⟨sp2', s2', r1, by omega, by omega, r4, r5, r6⟩
        · rw [loop_sync h0 hic hk] at h
          rw [loop_sync h0' hic' (by rw [shI_kind]; exact hk)]
          exact loop_pause hA g _ _ _ v sp s2 h G1 d _ _ (by omega) hpf hd (hS.pay.wait (by have := hS.span; simp only [payT]; omega)) hdp
        · rw [loop_ret h0 hic hk] at h
          rw [loop_ret h0' hic' (by rw [shI_kind]; exact hk), shI_a (by omega), hS.regs]
          injection h with e1 e2 e3
          subst e3
          have h1 := hS.span
          refine ⟨t'.span + 1, leaveS false (payS s') (endT (payT t') v), by rw [e1], ?_, ?_, by omega, by omega, hdp⟩
          · show (payS s').fuel + (s.tasks - s.tasks) = (payS s).fuel + d
            omega
          · show s'.tasks + s.tasks = s.tasks + s'.tasks
            omega
        · have ei : shI i = i := by unfold shI; rw [if_neg (by omega), if_neg (by omega)]
          rw [ei] at hic'
          rw [loop_comp h0 hic hk] at h
          rw [loop_comp h0' hic' hk]
          exact loop_pause hA g _ _ _ v sp s2 h G1 d _ _ (by omega) hpf hd (hS.pay.comp i) hdp
/-- What the longer program comes to. -/
theorem pause_eval {l : List Fn} {zs : List Int} {fuel : Int} (hok : ∀ f ∈ l, f.Ok) (hz : ∀ x ∈ zs, okI x) {v wk tk dp sp : Int} (he : evalV l zs fuel = (⟨v, wk, tk, dp, sp⟩, 0)) (hm : wk + tk ≤ 4194304) (hlen : ∀ f ∈ l, f.code.length < 512) :
    0 ≤ wk ∧ 0 ≤ tk ∧ ∃ sp', evalV (pauseL l) zs (wk + tk) = (⟨v, wk + tk, tk, dp, sp'⟩, 0) ∧ sp < sp' ∧ (∀ f ∈ pauseL l, f.Ok) := by
  have he0 : (evalV l zs fuel).2 = 0 := by rw [he]
  have hr0 : refusedV l zs fuel = 0 := by
    by_cases h : refusedV l zs fuel = 0
    · exact h
    · unfold evalV at he0
      rw [if_pos h] at he0
      exact absurd he0 h
  obtain ⟨hcz, hpz, hf0, hf1⟩ := refused_zero hr0
  have hA := allV_of hcz hok
  have hcp := check_pause hcz hlen
  have hokp : ∀ f ∈ pauseL l, f.Ok := fun f hf => by
    obtain ⟨g, hg, rfl⟩ := List.mem_map.1 hf
    have hG := hok g hg
    refine ⟨hG.params, hG.regs, hG.slots, fun i hi => ?_⟩
    have hi2 : i ∈ syncI :: g.code.map shI := hi
    rcases List.mem_cons.1 hi2 with e | hi3
    · subst e
      exact ⟨by simp [syncI, okI], by simp [syncI, okI], by simp [syncI, okI], by simp [syncI, okI], by simp [syncI, okI]⟩
    · obtain ⟨i0, hi0, rfl⟩ := List.mem_map.1 hi3
      have hI := hG.code i0 hi0
      obtain ⟨q, hq, eq⟩ := List.getElem_of_mem hi0
      have so := step_ok (hA.all g hg) (at_ := q) (i := i0) (by rw [List.getElem?_eq_getElem hq, eq])
      have hgl := hlen g hg
      refine ⟨by rw [shI_kind]; exact hI.kind, ?_, ?_, by rw [shI_c]; exact hI.c, by rw [shI_k]; exact hI.k⟩
      · by_cases h3 : i0.kind = 3
        · rw [shI_a3 h3]; have := so.jump h3; unfold okI; omega
        · rw [shI_a h3]; exact hI.a
      · by_cases h4 : i0.kind = 4
        · rw [shI_b4 h4]; have := so.branch h4; unfold okI; omega
        · rw [shI_b h4]; exact hI.b
  have hA2 := allV_of hcp hokp
  obtain ⟨F, rfl⟩ := Int.eq_ofNat_of_zero_le hf0
  have hev2 : evalV l zs (F : Int) = (match runV l false zs F with
    | .gave e => (zeroVal, e)
    | .done v sp s => (⟨v, (F : Int) - s.fuel, s.tasks, s.depth, sp⟩, 0)) := by
    unfold evalV
    rw [if_neg (by simpa using hr0)]
    rfl
  rw [he] at hev2
  cases hq : runV l false zs F with
  | gave e =>
    rw [hq] at hev2
    have h1 := congrArg Prod.snd hev2
    have h2 : (0 : Int) = e := h1
    rcases run_gave hA hz (by omega) hq with h3 | h3 <;> omega
  | done v0 sp0 s =>
    rw [hq] at hev2
    have h1 := congrArg Prod.fst hev2
    injection h1 with e1 e2 e3 e4 e5
    subst e1 e5
    have hBg0 := root_begins hA false hz F (by omega)
    obtain ⟨_, _, _, hfle, _, _⟩ := child_done hA hBg0 rfl hq
    have hfle' : s.fuel ≤ F := hfle
    obtain ⟨K, hK⟩ : ∃ K, K = F - s.fuel := ⟨_, rfl⟩
    have hsh := run_shift hA hz (by omega) hq K (by omega)
    have hKi : wk = (K : Int) := by omega
    obtain ⟨X, hX⟩ : ∃ X, X = K + s.tasks := ⟨_, rfl⟩
    have hXi : wk + tk = (X : Int) := by omega
    refine ⟨by omega, by omega, ?_⟩
    have hd1 : ¬ 4096 < (rootT zs).depth := by show ¬ (4096 : Int) < 1; decide
    have hBg := root_begins hA2 false hz X (by omega)
    unfold runV playV at hsh
    rw [if_neg hd1] at hsh
    have hts := loop_tasks _ _ _ 0 v sp _ hsh
    have hts' : 1 ≤ s.tasks := hts
    obtain ⟨f2, hf2, _, hcf2, hV2, _⟩ := hA.fn (k := 0) ⟨Int.le_refl _, by have := hA.len; omega⟩
    have hcode : (codeOf (pauseL l) (enterT (startS X) (rootT zs)).node.func)[0]? = some syncI := by
      show (codeOf (pauseL l) 0)[0]? = some syncI
      rw [codeP, hf2]
      rfl
    have hfu : (enterS false (startS X) (rootT zs)).fuel ≠ 0 := by show X ≠ 0; omega
    have hrel : RelP l (enterT (startS K) (rootT zs)) (waitT (payT (enterT (startS X) (rootT zs)))) := by
      refine ⟨rfl, rfl, rfl, rfl, rfl, ⟨Int.le_refl _, by show (0 : Int) < _; have := hA.len; omega⟩, rfl, ⟨Int.le_refl _, ?_⟩, ⟨Int.le_refl _, .inl rfl⟩⟩
      show (0 : Int) + 1 ≤ imax (0 + 1) (0 + 1)
      simp [imax]
    have hle2 : K - (F - s.fuel) = 0 := by omega
    obtain ⟨sp', s2', q1, q2, q3, q4, q5, q6⟩ := loop_pause hA _ _ _ 0 v sp _ hsh (2 * (K + 1)) (s.tasks - 1) (payS (enterS false (startS X) (rootT zs))) _ (Nat.le_refl _) (by show X - 1 = K + (s.tasks - 1); omega) (by show s.tasks - 1 ≤ s.tasks - 1; omega) hrel rfl
    have hrun : loopV (pauseL l) false (2 * (K + 1) + 1) (enterS false (startS X) (rootT zs)) (enterT (startS X) (rootT zs)) 0 = .done v sp' s2' := by
      rw [loop_sync hfu hcode rfl]
      exact q1
    obtain ⟨f3, _, _, hc3, hV3, _⟩ := hA2.fn (hBg.tin hd1).func
    have hs2 := loop_shift hA2 false _ _ _ 0 (hBg.sin hd1) (hBg.tin hd1) (by rw [hc3]; have := (valid_bounds hV3).2.2.2; omega) v sp' s2' hrun (X + 1) X (by omega) (by show X - s2'.fuel ≤ X; omega)
    have q2' : s2'.fuel + (s.tasks - 1) = (K - (F - s.fuel)) + (s.tasks - 1) := q2
    have hz2 : s2'.fuel = 0 := by omega
    have q3' : s2'.tasks + 1 = s.tasks + 1 := q3
    have q6' : s2'.depth = s.depth := q6
    have hr2 : runV (pauseL l) false zs X = .done v sp' (s2'.at (X - (X - s2'.fuel))) := by
      unfold runV playV
      rw [if_neg hd1]
      exact hs2
    have href : refusedV (pauseL l) zs (X : Int) = 0 := by
      unfold refusedV
      rw [hcp, par_pause]
      rw [if_neg (by simp), if_neg (by rw [hpz]; simp), if_neg (by omega)]
    refine ⟨sp', ?_, by omega, hokp⟩
    rw [hXi]
    have e6 : evalV (pauseL l) zs (X : Int) = (match runV (pauseL l) false zs X with
      | .gave e => (zeroVal, e)
      | .done v sp s => (⟨v, (X : Int) - s.fuel, s.tasks, s.depth, sp⟩, 0)) := by
      unfold evalV
      rw [if_neg (by simpa using href)]
      rfl
    rw [e6, hr2]
    simp only
    have e7 : (s2'.at (X - (X - s2'.fuel))).fuel = 0 := by show X - (X - s2'.fuel) = 0; omega
    have e8 : (s2'.at (X - (X - s2'.fuel))).tasks = s2'.tasks := rfl
    have e9 : (s2'.at (X - (X - s2'.fuel))).depth = s2'.depth := rfl
    rw [e7, e8, e9]
    have e10 : (X : Int) - ((0 : Nat) : Int) = (X : Int) := by omega
    have e11 : (s2'.tasks : Int) = tk := by omega
    have e12 : s2'.depth = dp := by rw [q6', e4]
    rw [e10, e11, e12]
end Go.Proofs.YtokfbagacehbgaaDoor
/-! A copied program whose codes are put anew. -/
namespace Go.Proofs.YtokfbagacehbgaaDoor
set_option linter.unusedVariables false
set_option maxRecDepth 20000
open Go.RowKit Go.HeapKit Go.PlainOps

theorem own_less {w : World} {base base' : Nat} {v : Value} {n : Nat} {vs : List Value} (h : w.ownsRow base' 37 5 v n vs) (hb : base ≤ base') : w.ownsRow base 37 5 v n vs := by
  refine ⟨h.1, ?_⟩
  rcases h.2 with h0 | ⟨g, cap, cur, h1, h2, h3⟩
  · exact .inl h0
  · exact .inr ⟨g, cap, cur, h1, Nat.le_trans hb h2, h3⟩
theorem own_from {w : World} {base : Nat} {v : Value} {n i : Nat} {vs : List Value} (h : w.ownsRow base 37 5 v n vs) (e : v.ownBlock = some i) : base ≤ i := by
  rcases h.2 with ⟨rfl, _⟩ | ⟨g, cap, cur, rfl, h2, h3⟩
  · simp [Value.ownBlock] at e
  · simp [Value.ownBlock] at e; omega
theorem ins_more (base : Nat) (v : Value) (l : List Ins) (x : Ins) (n g ty : Nat) (w : World) (hn : n = l.length) (h : w.ownsRow base 37 5 v n (insVals l)) (hb : base ≤ w.heap.size) (hlen : (n + 1) * 40 ≤ 140737488355328)
    (hg : w.heap[g]? = some (.cells #[.int .i64 x.kind, .int .i64 x.a, .int .i64 x.b, .int .i64 x.c, .int .i64 x.k] 37 (0, 0))) :
    ∃ b cap w', (Builtin.append_ #[33, 33] ty #[v, .slice (some ⟨g, 0, none⟩) 1 1]).run Tryd.prog w = .ok (.slice (some ⟨b, 0, none⟩) (n + 1) cap) w' ∧
      w'.ownsRow base 37 5 (.slice (some ⟨b, 0, none⟩) (n + 1) cap) (n + 1) (insVals (l ++ [x])) ∧ Keeps (fun k => v.ownBlock = some k) w w' := by
  obtain ⟨b, cap, w', hr, ho, hk, hlo⟩ := ins_append v l x n g ty w hn (own_less h (Nat.zero_le _)) hlen hg
  refine ⟨b, cap, w', hr, ⟨ho.1, ?_⟩, hk⟩
  rcases ho.2 with h0 | ⟨g', cap', cur, h1, h2, h3⟩
  · exact .inl h0
  · refine .inr ⟨g', cap', cur, h1, ?_, h3⟩
    injection h1 with e1
    injection e1 with e1
    injection e1 with e1
    rcases hlo with e | e
    · have := own_from h e
      omega
    · omega
theorem flat4_last (R : List (List Value)) (h : ∀ r ∈ R, r.length = 4) (k : Nat) (a b c o d : Value) (hk : R[k]? = some [a, b, c, o]) : R.flatten.set (k * 4 + 3) d = (R.set k [a, b, c, d]).flatten := by
  induction R generalizing k with
  | nil => simp at hk
  | cons y R ih =>
    have hy := h y (by simp)
    match y, hy with
    | [y0, y1, y2, y3], _ =>
      cases k with
      | zero =>
        simp at hk
        obtain ⟨rfl, rfl, rfl, rfl⟩ := hk
        rfl
      | succ k =>
        have h1 := ih (fun r hr => h r (by simp [hr])) k (by simpa using hk)
        rw [List.set_cons_succ, List.flatten_cons, List.flatten_cons, ← h1, show (k + 1) * 4 + 3 = (k * 4 + 3) + 4 by omega]
        rfl
/-- The code of one function is put anew. -/
theorem Cp.setCode {base : Nat} {w : World} {l : List Fn} {g n qc : Nat} {tv : List At} (h : Cp base w l (.slice (some ⟨g, 0, none⟩) n qc) tv) (hn : n = l.length) {i : Nat} {f : Fn} {t : At} (hf : l[i]? = some f) (ht : tv[i]? = some t) {nb m cap : Nat} {cs : List Ins} (hm : m = cs.length)
    (hrow : w.ownsRow 0 37 5 (.slice (some ⟨nb, 0, none⟩) m cap) m (insVals cs)) (hb : base ≤ nb) (hnew : ∀ (j : Nat) (u : At) (q : Nat), tv[j]? = some u → u.blk = some q → q ≠ nb) :
    Cp base (w.setCell ⟨g, i * 4 + 3, none⟩ (.slice (some ⟨nb, 0, none⟩) m cap)) (l.set i { f with code := cs }) (.slice (some ⟨g, 0, none⟩) n qc) (tv.set i (some ⟨nb, 0, none⟩, cap)) ∧ Keeps (· = g) w (w.setCell ⟨g, i * 4 + 3, none⟩ (.slice (some ⟨nb, 0, none⟩) m cap)) ∧ base ≤ g ∧ w.frozen? ⟨g, i * 4 + 3, none⟩ = false := by
  subst hm
  have hil := (List.getElem?_eq_some_iff.1 hf).1
  have hkk : Keeps (· = g) w (w.setCell ⟨g, i * 4 + 3, none⟩ (.slice (some ⟨nb, 0, none⟩) cs.length cap)) := Keeps.setCell (S := (· = g)) w (a := ⟨g, i * 4 + 3, none⟩) rfl _
  obtain ⟨g', C, eg, hC, _⟩ := h.rows hn (by omega)
  injection eg with eg
  injection eg with eg
  subst eg
  have hz := zip_at tfCells l tv i f t hf ht
  have hrows : (List.zipWith tfCells l tv).set i (tfCells { f with code := cs } (some ⟨nb, 0, none⟩, cap)) = List.zipWith tfCells (l.set i { f with code := cs }) (tv.set i (some ⟨nb, 0, none⟩, cap)) := by
    apply List.ext_getElem?
    intro k
    rw [List.getElem?_zipWith]
    by_cases hk : i = k
    · subst hk
      rw [List.getElem?_set_self (by rw [List.length_zipWith, h.len]; simp; exact hil), List.getElem?_set_self hil, List.getElem?_set_self (by rw [h.len]; exact hil)]
    · rw [List.getElem?_set_ne hk, List.getElem?_set_ne hk, List.getElem?_set_ne hk, List.getElem?_zipWith]
  refine ⟨⟨?_, ?_, by simp [h.len], h.low, ?_, ?_⟩, hkk, h.low g rfl, blk_free hC _⟩
  · have hr := h.row
    rw [← hn] at hr
    have h1 := own_put (i := i * 4 + 3) (.slice (some ⟨nb, 0, none⟩) cs.length cap) hr
    rw [flat4_last _ (zip_four l tv) i _ _ _ _ _ hz] at h1
    have e : tfCells { f with code := cs } (some ⟨nb, 0, none⟩, cap) = [.int .i64 f.params, .int .i64 f.regs, .int .i64 f.slots, .slice (some ⟨nb, 0, none⟩) cs.length cap] := rfl
    rw [← e, hrows] at h1
    rw [List.length_set, ← hn]
    exact h1
  · intro j f' t' hf' ht'
    by_cases hj : i = j
    · subst hj
      rw [List.getElem?_set_self hil] at hf'
      obtain rfl := Option.some.inj hf'
      rw [List.getElem?_set_self (by rw [h.len]; exact hil)] at ht'
      obtain rfl := Option.some.inj ht'
      have h2 := hkk.own hrow (fun q e hq => by subst hq; exact absurd (own_type hrow e hC) (by decide))
      exact h2
    · rw [List.getElem?_set_ne hj] at hf' ht'
      have ho := h.code j f' t' hf' ht'
      exact hkk.own ho (fun q e hq => by subst hq; exact absurd (own_type ho e hC) (by decide))
  · intro j t' q ht' hq
    by_cases hj : i = j
    · subst hj
      rw [List.getElem?_set_self (by rw [h.len]; exact hil)] at ht'
      obtain rfl := Option.some.inj ht'
      simp [At.blk, Value.ownBlock] at hq
      omega
    · rw [List.getElem?_set_ne hj] at ht'
      exact h.cl j t' q ht' hq
  · intro j k t1 t2 q h1 h2 h3 h4
    by_cases hj : i = j
    · subst hj
      rw [List.getElem?_set_self (by rw [h.len]; exact hil)] at h1
      obtain rfl := Option.some.inj h1
      have hq : q = nb := by simp [At.blk, Value.ownBlock] at h3; omega
      by_cases hk : i = k
      · exact hk
      · rw [List.getElem?_set_ne hk] at h2
        exact absurd hq (hnew k t2 q h2 h4)
    · rw [List.getElem?_set_ne hj] at h1
      by_cases hk : i = k
      · subst hk
        rw [List.getElem?_set_self (by rw [h.len]; exact hil)] at h2
        obtain rfl := Option.some.inj h2
        have hq : q = nb := by simp [At.blk, Value.ownBlock] at h4; omega
        exact absurd hq (hnew j t1 q h1 h3)
      · rw [List.getElem?_set_ne hk] at h2
        exact h.nd j k t1 t2 q h1 h2 h3 h4
theorem Cp.lt {base : Nat} {w : World} {l : List Fn} {qv : Value} {tv : List At} (h : Cp base w l qv tv) {j : Nat} {u : At} {q : Nat} (hu : tv[j]? = some u) (hq : u.blk = some q) : q < w.heap.size := by
  have hjl := (List.getElem?_eq_some_iff.1 hu).1
  obtain ⟨C, hC⟩ := own_block (h.code j (l[j]'(by rw [← h.len]; exact hjl)) u (by simp) hu) (by rw [← hq]; exact At.blk_slice _ _ _ _)
  exact blk_lt hC
/-- How far it is done. -/
def half (l : List Fn) (i : Nat) : List Fn := (l.take i).map fnP ++ l.drop i
theorem half_len (l : List Fn) (i : Nat) (hi : i ≤ l.length) : (half l i).length = l.length := by simp [half]; omega
theorem half_at {l : List Fn} {i : Nat} {f : Fn} (hf : l[i]? = some f) : (half l i)[i]? = some f := by
  have hil := (List.getElem?_eq_some_iff.1 hf).1
  unfold half
  rw [List.getElem?_append_right (by simp; omega), List.getElem?_drop]
  simp only [List.length_map, List.length_take]
  rw [show i + (i - min i l.length) = i by omega]
  exact hf
theorem half_step {l : List Fn} {i : Nat} {f : Fn} (hf : l[i]? = some f) : (half l i).set i (fnP f) = half l (i + 1) := by
  have hil := (List.getElem?_eq_some_iff.1 hf).1
  unfold half
  rw [List.set_append_right _ _ (by simp; omega), show i - ((l.take i).map fnP).length = 0 by simp; omega, List.drop_eq_getElem_cons hil, List.set_cons_zero, List.take_add_one, hf]
  simp
theorem half_end (l : List Fn) : half l l.length = pauseL l := by simp [half, pauseL]
end Go.Proofs.YtokfbagacehbgaaDoor
/-! Tree. -/
namespace Go.Proofs.YtokfbagacehbgaaDoor
set_option linter.unusedVariables false
set_option maxRecDepth 20000
open Go.RowKit Go.HeapKit Go.PlainOps

theorem nd_made (T : Nat) (hT : T ≤ 8388608) : ∃ M : Array Value, M.size = T * 7 ∧ ∀ w : World, (Instr.makeSlice 41 (.int .i64 0) (.int .i64 (T : Int))).run Tryd.prog w = .ok (.slice (some ⟨w.heap.size, 0, none⟩) 0 T) (w.alloc (.cells M 51)) := by
  obtain ⟨i0, hi, hz0, hz1, hz2⟩ := info_parts Tryd.infoNd
  refine ⟨madeCells (Value.agg #[.int .i64 0, .int .i64 0, .int .i64 0, .int .i64 0, .int .i64 0, .int .i64 0, .int .i64 0]).cells (T * 7), size_madeCells _ _, fun w => ?_⟩
  have h := run_make (P := Tryd.prog) w 41 51 i0 _ Tryd.underlying41 hi hz0 .i64 .i64 0 (T : Int) (by omega) (by omega) (by rw [hz2]; omega) (by omega)
  rw [hz1] at h
  simpa using h
/-- What Tree hands out. -/
def TreePost (l : List Fn) (zs : List Int) (fuel : Int) (w : World) (e : Ending) (w' : World) : Prop :=
  ∃ nv, e = .returned (.tuple #[nv, .int .i64 (evalV l zs fuel).2]) ∧ Keeps None w w' ∧ (∀ g, nv.ownBlock = some g → w.heap.size ≤ g) ∧
    ((evalV l zs fuel).2 ≠ 0 → nv = .slice none 0 0) ∧ ((evalV l zs fuel).2 = 0 → w'.ownsRow 0 51 7 nv (treeV l zs fuel).length (ndVals (treeV l zs fuel)))
set_option maxHeartbeats 2000000 in
theorem tree_any (a : Option Addr) (n c : Nat) (l : List Fn) (aa : Option Addr) (an ac : Nat) (zs : List Int) (fuel : Int) (w : World) (hT : Tabs w) (hS : SeenF w a n l) (hok : ∀ f ∈ l, f.Ok) (hZ : SeenA w aa an zs) (hZ2 : an ≤ 9223372036854775807) (hfu : okI fuel) :
    Calls Tryd.prog 12 #[.agg #[.slice a n c], .slice aa an ac, .int .i64 fuel] w (TreePost l zs fuel w) := by
  obtain ⟨B, hB⟩ : ∃ B, B = w.heap.size := ⟨_, rfl⟩
  have b1 := heap_alloc_new w (.cells #[.slice a n c] 24)
  have hk1 := Keeps.alloc None w (.cells #[.slice a n c] 24)
  obtain ⟨W, hW⟩ : ∃ W, W = w.alloc (.cells #[.slice a n c] 24) := ⟨_, rfl⟩
  rw [← hW, ← hB] at b1
  rw [← hW] at hk1
  have hev := eval_any a n c l aa an ac zs fuel W (hT.more hk1) (hS.more hk1) hok (hZ.more hk1) hZ2 hfu
  have d0 : W.cell? ⟨B, 0, none⟩ = some (.slice a n c) := (blk_cell b1 0).trans rfl
  have HX : Hid (B = w.heap.size ∧ Keeps None w W ∧ W.heap[B]? = some (.cells #[.slice a n c] 24 (0, 0)) ∧ SeenF w a n l ∧ (∀ f ∈ l, f.Ok) ∧ SeenA w aa an zs) := ⟨hB, hk1, b1, hS, hok, hZ⟩
  by_cases he0 : (evalV l zs fuel).2 = 0
  · have hr0 : refusedV l zs fuel = 0 := by
      by_cases h : refusedV l zs fuel = 0
      · exact h
      · unfold evalV at he0
        rw [if_pos h] at he0
        exact absurd he0 h
    obtain ⟨hcz, hpz, hf0, hf1⟩ := refused_zero hr0
    have hA := allV_of hcz hok
    obtain ⟨F, rfl⟩ := Int.eq_ofNat_of_zero_le hf0
    have hz8 := root_le hA hpz
    have hBg := root_begins hA true hZ.ok F (by omega)
    have hbare := run_bare' l zs F
    obtain ⟨v, sp, s, hrun, hdone⟩ : ∃ v sp s, runV l true zs F = .done v sp s ∧ evalV l zs (F : Int) = (⟨v, (F : Int) - s.fuel, s.tasks, s.depth, sp⟩, 0) := by
      have hev2 : evalV l zs (F : Int) = (match runV l false zs F with
        | .gave e => (zeroVal, e)
        | .done v sp s => (⟨v, (F : Int) - s.fuel, s.tasks, s.depth, sp⟩, 0)) := by
        unfold evalV
        rw [if_neg (by simpa using hr0)]
        rfl
      rw [hbare] at hev2
      cases hq : runV l true zs F with
      | gave e =>
        rw [hq] at hev2
        have : evalV l zs (F : Int) = (zeroVal, e) := hev2
        rw [this] at he0
        have he : e ≠ 0 := gave_ne hA hBg hq
        exact absurd he0 he
      | done v sp s =>
        rw [hq] at hev2
        exact ⟨v, sp, s, rfl, hev2⟩
    obtain ⟨_, _, _, h4, h5, _⟩ := child_done hA hBg rfl hrun
    have htk : s.tasks ≤ 8388608 := by have := h5.tasks; omega
    obtain ⟨M, hMs, hmk⟩ := nd_made s.tasks htk
    have htv : treeV l zs (F : Int) = s.nodes := by
      unfold treeV
      rw [show (F : Int).toNat = F from rfl, hrun]
    have hpl := fun (R : Nat) (nv : Value) (wx : World) (hRx : w.heap.size ≤ R) (hnx : ∀ g, nv.ownBlock = some g → w.heap.size ≤ g) (hkx : Keeps None w wx) (hrx : IsRn wx R (.slice a n c) true (startS F) nv) => play_any l hA true a n c w R F (F + 1) (startS F) (rootT zs) nv wx (Nat.lt_succ_self _) (Nat.le_refl _) hrx ⟨hS, hkx, hRx, hnx⟩ hBg
    have hpl2 : ∀ (R : Nat) (nv : Value) (wx : World) (hRx : w.heap.size ≤ R) (hnx : ∀ g, nv.ownBlock = some g → w.heap.size ≤ g) (hkx : Keeps None w wx) (hrx : IsRn wx R (.slice a n c) true (startS F) nv), Calls Tryd.prog 10 #[.pointer (some ⟨R, 0, none⟩), tkV (rootT zs)] wx (PlaysTo R (.slice a n c) true nv wx (.done v sp s)) := by
      rw [← hrun]
      exact hpl
    have hrt := fun (wx : World) (hkx : Keeps None w wx) => root_any aa an ac zs wx (hZ.more hkx) (by have := hZ.len; omega)
    have HPL : Hid _ := hpl2
    have HRT : Hid _ := hrt
    have HTV : Hid (treeV l zs (F : Int) = s.nodes ∧ evalV l zs (F : Int) = (⟨v, (F : Int) - s.fuel, s.tasks, s.depth, sp⟩, 0) ∧ M.size = s.tasks * 7 ∧ s.tasks ≤ 8388608) := ⟨htv, hdone, hMs, htk⟩
    rw [hdone] at hev
    unfold valC at hev
    simp only at hev
    clear hpl hpl2 hrt htv hBg hbare hrun hdone h4 h5 htk hA hcz hpz hr0 he0 hz8 hT hS hok hZ hk1 b1 hMs
    unfold tkV at HPL HRT
    generalize Value.agg (ints ((rootT zs).l 0 0 0)).toArray = tv at *
    go_enter Tryd.func12, Tryd.ntmps12
    go_upto_region 1 with fail
    rw [← hW, ← hB]
    clear hW hB
    go_upto_region 2 with (go_at_call 4; refine hev.mono ?_; rintro _ w2 ⟨rfl, hk2⟩)
    have e0 := hk2.cell d0 (fun f => f)
    have hal := Keeps.alloc None w2 (.cells #[.int .i64 v, .int .i64 ((F : Int) - s.fuel), .int .i64 s.tasks, .int .i64 s.depth, .int .i64 sp] 27)
    have bV := heap_alloc_new w2 (.cells #[.int .i64 v, .int .i64 ((F : Int) - s.fuel), .int .i64 s.tasks, .int .i64 s.depth, .int .i64 sp] 27)
    obtain ⟨V, hV⟩ : ∃ V, V = w2.alloc (.cells #[.int .i64 v, .int .i64 ((F : Int) - s.fuel), .int .i64 s.tasks, .int .i64 s.depth, .int .i64 sp] 27) := ⟨_, rfl⟩
    obtain ⟨G, hG⟩ : ∃ G, G = w2.heap.size := ⟨_, rfl⟩
    rw [← hV] at hal bV
    rw [← hG] at bV
    rw [← hV, ← hG]
    have f0 := hal.cell e0 (fun f => f)
    have f1 : V.cell? ⟨G, 2, none⟩ = some (.int .i64 s.tasks) := (blk_cell bV 2).trans rfl
    have HV : Hid (Keeps None w V ∧ w.heap.size ≤ V.heap.size) := ⟨(HX.out.2.1.trans hk2 (fun _ f _ => f)).trans hal (fun _ f _ => f), ((HX.out.2.1.trans hk2 (fun _ f _ => f)).trans hal (fun _ f _ => f)).size⟩
    clear hV hG hal bV hk2 e0 d0 hev
    go_upto_region 4 with fail
    go_cut [10] (fun s10 wx => ∃ R g, s10 = .pointer (some ⟨R, 0, none⟩) ∧ w.heap.size ≤ R ∧ w.heap.size ≤ g ∧ IsRn wx R (.slice a n c) true (startS F) (.slice (some ⟨g, 0, none⟩) 0 s.tasks) ∧ Keeps None w wx)
    case first =>
      go_region_held3 (fun w' => w'.cell? ⟨B, 0, none⟩ = some (.slice a n c) ∧ w'.cell? ⟨G, 2, none⟩ = some (.int .i64 s.tasks)) (go_keep) (fail)
      all_goals (go_wp2_with fail; go_meet)
      · obtain ⟨p1, p2⟩ := two_boxes V M #[.slice a n c, .int .i64 F, .int .i64 0, .int .i64 0, .bool true, .slice (some ⟨V.heap.size, 0, none⟩) 0 s.tasks] 51 43
        have hk := keeps2 V (.cells M 51) (.cells #[.slice a n c, .int .i64 F, .int .i64 0, .int .i64 0, .bool true, .slice (some ⟨V.heap.size, 0, none⟩) 0 s.tasks] 43)
        exact ⟨V.heap.size + 1, V.heap.size, rfl, by have := HV.out.2; omega, HV.out.2, ⟨p2, ⟨rfl, .inr ⟨_, s.tasks, M, rfl, Nat.zero_le _, p1, Nat.zero_le _, by have := HTV.out.2.2.2; unfold maxLen; omega, HTV.out.2.2.1, rfl⟩⟩⟩, (HV.out.1.trans hk (fun _ f _ => f)).andDrew⟩
      · obtain ⟨p1, p2⟩ := two_boxes V #[.slice a n c, .int .i64 F, .int .i64 0, .int .i64 0, .bool true, .slice (some ⟨V.heap.size + 1, 0, none⟩) 0 s.tasks] M 43 51
        have hk := keeps2 V (.cells #[.slice a n c, .int .i64 F, .int .i64 0, .int .i64 0, .bool true, .slice (some ⟨V.heap.size + 1, 0, none⟩) 0 s.tasks] 43) (.cells M 51)
        exact ⟨V.heap.size, V.heap.size + 1, rfl, HV.out.2, by have := HV.out.2; omega, ⟨p1, ⟨rfl, .inr ⟨_, s.tasks, M, rfl, Nat.zero_le _, p2, Nat.zero_le _, by have := HTV.out.2.2.2; unfold maxLen; omega, HTV.out.2.2.1, rfl⟩⟩⟩, (HV.out.1.trans hk (fun _ f _ => f)).andDrew⟩
    case rest =>
      obtain ⟨R, g, rfl, hR, hg, hrn, hkc⟩ := hcut
      have hrt := HRT.out wc hkc
      have hpl := fun wx (hx : Keeps None wc wx) => HPL.out R (.slice (some ⟨g, 0, none⟩) 0 s.tasks) wx hR (fun g' e => by simp [Value.ownBlock] at e; omega) (hkc.trans hx (fun _ f _ => f)) (hrn.kept hx (fun _ _ f => f))
      have HPL2 : Hid _ := hpl
      have HC : Hid (w.heap.size ≤ R ∧ w.heap.size ≤ g ∧ Keeps None w wc) := ⟨hR, hg, hkc⟩
      clear hpl HPL HRT hR hg hkc hrn f0 f1 hmk
      go_upto_region 6 with (first | (go_at_call 11; refine hrt.mono ?_; rintro _ w5 ⟨rfl, hk5⟩) | (go_at_call 10; refine (HPL2.out _ hk5).mono ?_; rintro _ w6 ⟨rfl, nv6, hr6, hk6, hm6⟩))
      have g5 : w6.cell? ⟨R, 5, none⟩ = some nv6 := (blk_cell hr6.blk 5).trans rfl
      have hkw : Keeps None w w6 := (HC.out.2.2.trans hk5 (fun _ f _ => f)).trans hk6 (fun i e hi => by rcases e with e | e; have := HC.out.1; omega; simp [Value.ownBlock] at e; have := HC.out.2.1; omega)
      have HQ : Hid (TreePost l zs (F : Int) w (.returned (.tuple #[nv6, .int .i64 0])) w6) := by
        refine ⟨nv6, by rw [HTV.out.2.1], hkw, fun g' e => ?_, fun h => by rw [HTV.out.2.1] at h; exact absurd rfl h, fun _ => by rw [HTV.out.1]; exact hr6.row⟩
        rcases hm6 with h | ⟨g2, e2, h2⟩
        · rw [h] at e
          simp [Value.ownBlock] at e
          have := HC.out.2.1
          omega
        · rw [e2] at e
          obtain rfl := Option.some.inj e
          have := hk5.size
          have := HC.out.2.2.size
          omega
      clear hr6 hk6 hm6 hkw hk5 hrt
      go_wp2_with fail
      go_ret2
      exact HQ.out
  · have heb : ((evalV l zs fuel).2 != 0) = true := by simpa using he0
    have HQ : Hid (∀ w', Keeps None w w' → TreePost l zs fuel w (.returned (.tuple #[.slice none 0 0, .int .i64 (evalV l zs fuel).2])) w') := fun w' hk => ⟨_, rfl, hk, fun g e => by simp [Value.ownBlock] at e, fun _ => rfl, fun h => absurd h he0⟩
    generalize (evalV l zs fuel).2 = er at *
    unfold valC at hev
    generalize (evalV l zs fuel).1 = ev at *
    clear hT hS hok hZ hk1 b1
    go_enter Tryd.func12, Tryd.ntmps12
    go_upto_region 1 with fail
    rw [← hW, ← hB]
    clear hW hB
    go_upto_region 2 with (go_at_call 4; refine hev.mono ?_; rintro _ w2 ⟨rfl, hk2⟩)
    have HK2 : Hid (Keeps None w w2) := HX.out.2.1.trans hk2 (fun _ f _ => f)
    clear hk2 hev
    go_wp2_with fail
    go_ret2
    exact HQ.out _ (HK2.out.andAlloc _)
end Go.Proofs.YtokfbagacehbgaaDoor
/-! The statements' 'lives'. -/
namespace Go.Proofs.YtokfbagacehbgaaDoor
set_option linter.unusedVariables false
set_option maxRecDepth 20000
open Go.RowKit Go.HeapKit Go.PlainOps

def liveF (c : Int) : Fn := ⟨0, 1, 0, [⟨0, 0, 0, 0, c⟩, ⟨9, 0, 0, 0, 0⟩]⟩
theorem live_check (c : Int) : checkV [liveF c] = (0, 0, 0) := by rfl
theorem live_eval (c : Int) : evalV [liveF c] [] 2 = (⟨c, 2, 1, 1, 2⟩, 0) := by
  have h1 : refusedV [liveF c] [] 2 = 0 := by
    unfold refusedV
    rw [live_check]
    rfl
  unfold evalV
  rw [h1]
  rfl
theorem live_tree (c : Int) : treeV [liveF c] [] 2 = [⟨-1, 0, 0, 2, 1, 0, c⟩] := by rfl
theorem live_ok (c : Int) (hc : okI c) : ∀ f ∈ [liveF c], f.Ok := by
  intro f hf
  simp at hf
  subst hf
  refine ⟨by simp [liveF, okI], by simp [liveF, okI], by simp [liveF, okI], fun i hi => ?_⟩
  simp [liveF] at hi
  rcases hi with rfl | rfl
  · exact ⟨by simp [okI], by simp [okI], by simp [okI], by simp [okI], hc⟩
  · exact ⟨by simp [okI], by simp [okI], by simp [okI], by simp [okI], by simp [okI]⟩
def liveC (c : Int) : Array Value := #[.int .i64 0, .int .i64 0, .int .i64 0, .int .i64 0, .int .i64 c, .int .i64 9, .int .i64 0, .int .i64 0, .int .i64 0, .int .i64 0]
theorem live_seen (w : World) (g h : Nat) (c : Int) (b1 : w.heap[g]? = some (.cells (liveC c) 37 (0, 0))) (b2 : w.heap[h]? = some (.cells #[.int .i64 0, .int .i64 1, .int .i64 0, .slice (some ⟨g, 0, none⟩) 2 2] 35 (0, 0))) : SeenF w (some ⟨h, 0, none⟩) 1 [liveF c] := by
  refine ⟨rfl, fun _ => ⟨_, 0, rfl, blk_lt b2, fun k f hf => ?_⟩⟩
  cases k with
  | succ k => simp at hf
  | zero =>
    simp at hf
    subst hf
    refine ⟨some ⟨g, 0, none⟩, 2, ⟨(cell_of_heap b2 0).trans rfl, (cell_of_heap b2 1).trans rfl, (cell_of_heap b2 2).trans rfl, (cell_of_heap b2 3).trans rfl, ⟨rfl, fun _ => ⟨_, 0, rfl, blk_lt b1, fun j i hi => ?_⟩⟩⟩⟩
    match j, hi with
    | 0, hi =>
      simp [liveF] at hi
      subst hi
      exact ⟨(cell_of_heap b1 0).trans rfl, (cell_of_heap b1 1).trans rfl, (cell_of_heap b1 2).trans rfl, (cell_of_heap b1 3).trans rfl, (cell_of_heap b1 4).trans rfl⟩
    | 1, hi =>
      simp [liveF] at hi
      subst hi
      exact ⟨(cell_of_heap b1 5).trans rfl, (cell_of_heap b1 6).trans rfl, (cell_of_heap b1 7).trans rfl, (cell_of_heap b1 8).trans rfl, (cell_of_heap b1 9).trans rfl⟩
    | j + 2, hi => simp [liveF] at hi
theorem seen_nil (w : World) : SeenA w none 0 [] := ⟨rfl, by omega, fun x hx => by simp at hx, fun h => by omega⟩
set_option maxHeartbeats 2000000 in
theorem lives_any (c : Int) (hc : okI c) (w : World) (hT : Tabs w) : Calls Tryd.prog 5 #[.int .i64 c] w fun e w' => e = .returned (.bool true) ∧ Keeps None w w' := by
  obtain ⟨B, hB⟩ : ∃ B, B = w.heap.size := ⟨_, rfl⟩
  obtain ⟨b1, b2, b3⟩ := three_boxes w (liveC c) #[.int .i64 0, .int .i64 1, .int .i64 0, .slice (some ⟨B, 0, none⟩) 2 2] #[.slice (some ⟨B + 1, 0, none⟩) 1 1] 37 35 24
  have hk3 : Keeps None w (((w.alloc (.cells (liveC c) 37)).alloc (.cells #[.int .i64 0, .int .i64 1, .int .i64 0, .slice (some ⟨B, 0, none⟩) 2 2] 35)).alloc (.cells #[.slice (some ⟨B + 1, 0, none⟩) 1 1] 24)) := (((Keeps.refl _ w).andAlloc _).andAlloc _).andAlloc _
  obtain ⟨W, hW⟩ : ∃ W, W = ((w.alloc (.cells (liveC c) 37)).alloc (.cells #[.int .i64 0, .int .i64 1, .int .i64 0, .slice (some ⟨B, 0, none⟩) 2 2] 35)).alloc (.cells #[.slice (some ⟨B + 1, 0, none⟩) 1 1] 24) := ⟨_, rfl⟩
  rw [← hW, ← hB] at b1 b2 b3
  rw [← hW] at hk3
  have hs := live_seen W B (B + 1) c b1 b2
  have hev := eval_any (some ⟨B + 1, 0, none⟩) 1 1 [liveF c] none 0 0 [] 2 W (hT.more hk3) hs (live_ok c hc) (seen_nil W) (by omega) (by simp [okI])
  have htr := fun wx (hx : Keeps None W wx) => tree_any (some ⟨B + 1, 0, none⟩) 1 1 [liveF c] none 0 0 [] 2 wx ((hT.more hk3).more hx) (hs.more hx) (live_ok c hc) (seen_nil wx) (by omega) (by simp [okI])
  rw [live_eval] at hev
  unfold valC at hev
  have HT : Hid (∀ wx, Keeps None W wx → Calls Tryd.prog 12 #[.agg #[.slice (some ⟨B + 1, 0, none⟩) 1 1], .slice none 0 0, .int .i64 2] wx fun e w' => ∃ g cap, e = .returned (.tuple #[.slice (some ⟨g, 0, none⟩) 1 cap, .int .i64 0]) ∧ Keeps None wx w' ∧ w'.cell? ⟨g, 0, none⟩ = some (.int .i64 (-1)) ∧ w'.cell? ⟨g, 1, none⟩ = some (.int .i64 0) ∧ w'.cell? ⟨g, 2, none⟩ = some (.int .i64 0) ∧ w'.cell? ⟨g, 3, none⟩ = some (.int .i64 2) ∧ w'.cell? ⟨g, 4, none⟩ = some (.int .i64 1) ∧ w'.cell? ⟨g, 5, none⟩ = some (.int .i64 0) ∧ w'.cell? ⟨g, 6, none⟩ = some (.int .i64 c)) := by
    intro wx hx
    refine (htr wx hx).mono ?_
    rintro e w' ⟨nv, he, hk, hg, _, hrow⟩
    have hrow := hrow (by rw [live_eval])
    rw [live_eval] at he
    rw [live_tree] at hrow
    rcases hrow.2 with ⟨_, h0⟩ | ⟨g, cap, cur, rfl, _, hb, hn, _, hcs, htk⟩
    · simp at h0
    · refine ⟨g, cap, he, hk, ?_⟩
      have hcell : ∀ j v, (ndVals [⟨-1, 0, 0, 2, 1, 0, c⟩])[j]? = some v → w'.cell? ⟨g, j, none⟩ = some v := by
        intro j v hv
        rw [blk_cell hb, ← Array.getElem?_toList]
        rw [← htk, List.getElem?_take] at hv
        split at hv
        · exact hv
        · cases hv
      exact ⟨hcell 0 _ rfl, hcell 1 _ rfl, hcell 2 _ rfl, hcell 3 _ rfl, hcell 4 _ rfl, hcell 5 _ rfl, hcell 6 _ rfl⟩
  have d0 : W.cell? ⟨B + 2, 0, none⟩ = some (.slice (some ⟨B + 1, 0, none⟩) 1 1) := (blk_cell b3 0).trans rfl
  have HX : Hid (Keeps None w W) := hk3
  unfold liveC at hW
  clear htr hs b1 b2 b3 hk3 hT hc
  go_enter Tryd.func5, Tryd.ntmps5
  rw [hB] at hW
  go_upto_region 2 with fail
  rw [← hW, ← hB]
  clear hW hB
  go_upto_region 3 with (go_at_call 4; refine hev.mono ?_; rintro _ w2 ⟨rfl, hk2⟩)
  have e0 := hk2.cell d0 (fun f => f)
  have hal := Keeps.alloc None w2 (.cells #[.int .i64 c, .int .i64 2, .int .i64 1, .int .i64 1, .int .i64 2] 27)
  have bV := heap_alloc_new w2 (.cells #[.int .i64 c, .int .i64 2, .int .i64 1, .int .i64 1, .int .i64 2] 27)
  obtain ⟨V, hV⟩ : ∃ V, V = w2.alloc (.cells #[.int .i64 c, .int .i64 2, .int .i64 1, .int .i64 1, .int .i64 2] 27) := ⟨_, rfl⟩
  obtain ⟨G, hG⟩ : ∃ G, G = w2.heap.size := ⟨_, rfl⟩
  rw [← hV] at hal bV
  rw [← hG] at bV
  rw [← hV, ← hG]
  have f0 := hal.cell e0 (fun f => f)
  have htr := HT.out V (hk2.trans hal (fun _ f _ => f))
  have HV : Hid (Keeps None w V ∧ V.heap[G]? = _) := ⟨(HX.out.trans hk2 (fun _ f _ => f)).trans hal (fun _ f _ => f), bV⟩
  clear hV hG hal bV hk2 e0 d0 hev HT
  go_upto_region 4 with (go_at_call 12; refine htr.mono ?_; rintro _ w4 ⟨g, cap, rfl, hk4, y0, y1, y2, y3, y4, y5, y6⟩)
  have b4 := blk_kept HV.out.2 hk4 (fun f => f)
  have x0 := (blk_cell b4 0).trans rfl
  have x1 := (blk_cell b4 1).trans rfl
  have x2 := (blk_cell b4 2).trans rfl
  have x3 := (blk_cell b4 3).trans rfl
  have x4 := (blk_cell b4 4).trans rfl
  have HK : Hid (Keeps None w w4) := HV.out.1.trans hk4 (fun _ f _ => f)
  clear b4 hk4 htr f0
  go_wp2_with fail
  go_ret
  exact ⟨rfl, HK.out⟩
end Go.Proofs.YtokfbagacehbgaaDoor
