import Derived.Test.YtokfbagacehbgaaDoorSrBounds
/-! A verified program's run stays in its bounds: the steps, the whole. -/
namespace Go.Proofs.YtokfbagacehbgaaDoor
set_option linter.unusedVariables false
set_option maxRecDepth 20000
open Go.RowKit Go.PlainOps

theorem imax_le {a b c : Int} (h : a ≤ c) (k : b ≤ c) : imax a b ≤ c := by unfold imax; split <;> omega
theorem le_imax (a b : Int) : a ≤ imax a b ∧ b ≤ imax a b := by unfold imax; split <;> omega
theorem Tk.In.pay {fs : List Fn} {t : Tk} {m : Nat} (h : t.In fs (m + 1)) : (payT t).In fs m := by
  obtain ⟨h1, h2, h3, h4, h5, h6, h7, h8, h9, h10, h11, h12⟩ := h
  exact ⟨h1, h2, h3, h4, h5, by simp only [payT]; omega, h7, h8, by simp only [payT]; omega, by simp only [payT]; omega, by simp only [payT]; omega, h12⟩
theorem Tk.In.set {fs : List Fn} {t : Tk} {m : Nat} (h : t.In fs m) (a : Nat) {x : Int} (hx : okI x) : (setR t a x).In fs m :=
  ⟨by simpa [setR] using h.regs, h.slots, set_ok h.okr a hx, h.oks, h.func, h.work, h.ped, h.depth, h.spawned, h.span, h.due, h.number⟩
theorem Tk.In.compute {fs : List Fn} {t : Tk} {m : Nat} (h : t.In fs m) (i : Ins) (hi : okI i.k) : (computeT t i).In fs m := by
  unfold computeT
  split; · exact h.set _ hi
  split; · exact h.set _ (getD_ok h.okr _)
  split; · exact h.set _ (work_ok _ _ _ (getD_ok h.okr _) (getD_ok h.okr _))
  split; · exact h.set _ (getD_ok h.oks _)
  split; · exact h.set _ h.ped
  exact h
theorem Tk.In.wait {fs : List Fn} {t : Tk} {m : Nat} (h : t.In fs (m + 1)) : (waitT (payT t)).In fs m := by
  obtain ⟨h1, h2, h3, h4, h5, h6, h7, h8, h9, h10, h11, h12⟩ := h.pay
  have hd := h.due
  refine ⟨h1, h2, h3, h4, h5, h6, h7, h8, h9, ?_, h11, h12⟩
  simp only [waitT]
  have := le_imax (payT t).span ((payT t).due + 1)
  have h3 : imax (payT t).span ((payT t).due + 1) ≤ 8388608 - m := imax_le (by omega) (by simp only [payT]; omega)
  omega
theorem ped_ok (p k : Int) : okI (pedV p k) := wrap_ok _
theorem Tk.In.child {fs : List Fn} {t : Tk} {m : Nat} {s : Rn} {n at_ : Nat} {i : Ins} (h : t.In fs (m + 1)) (hs : StepOk fs n at_ i) (h5 : i.kind = 5) (hd : ¬ 4096 < (childV fs (payT t) i).depth) (hm : m ≤ 8388608) (ht : s.tasks ≤ 8388608) :
    (enterT s (childV fs (payT t) i)).In fs m := by
  have hdp := h.depth
  refine ⟨args_len _ _ _, by simp [enterT, childV], args_ok h.okr _ _, ?_, hs.fn h5, ?_, ped_ok _ _, ?_, ?_, ?_, ?_, ?_⟩
  · intro x hx
    simp [enterT, childV] at hx
    subst hx
    simp [okI]
  · simp [enterT, childV]; omega
  · simp only [childV, payT] at hd
    simp only [enterT, childV, payT]
    omega
  · simp [enterT, childV]; omega
  · simp [enterT, childV]; omega
  · simp [enterT, childV]; omega
  · simp only [enterT]; omega
theorem Tk.In.got {fs : List Fn} {t : Tk} {m m' a : Nat} {v sp : Int} (h : t.In fs (m + 1)) (hv : okI v) (h0 : 0 ≤ sp) (h1 : sp + m' ≤ m) : (gotT (spawnT (payT t)) a v sp).In fs m' := by
  obtain ⟨g1, g2, g3, g4, g5, g6, g7, g8, g9, g10, g11, g12⟩ := h
  refine ⟨g1, by simpa [gotT, spawnT, payT] using g2, g3, ?_, g5, by simp only [gotT, spawnT, payT]; omega, g7, g8, by simp only [gotT, spawnT, payT]; omega, by simp only [gotT, spawnT, payT]; omega, ?_, g12⟩
  · exact set_ok g4 _ hv
  · simp only [gotT, spawnT, payT]
    have := le_imax t.due (t.span + 1 + sp)
    have h3 : imax t.due (t.span + 1 + sp) ≤ 8388608 - m' := imax_le (by omega) (by omega)
    omega
theorem Rn.In.pay {L : Bool} {s : Rn} (h : s.In L) : (payS s).In L := ⟨by have := h.tasks; simp only [payS]; omega, h.depth, h.nodes⟩
theorem Rn.In.enter {L : Bool} {s : Rn} {t : Tk} (h : s.In L) (h0 : s.fuel ≠ 0) (hd : 1 ≤ t.depth ∧ t.depth ≤ 4096) : (enterS L (payS s) t).In L := by
  obtain ⟨h1, h2, h3⟩ := h
  refine ⟨by simp only [enterS, payS]; omega, ?_, ?_⟩
  · simp only [enterS, payS]
    have := le_imax s.depth t.depth
    have := imax_le (show s.depth ≤ 4096 by omega) hd.2
    omega
  · cases L
    · simpa [enterS, payS] using h3
    · simp [enterS, payS, h3]
theorem Rn.In.leave {L : Bool} {s : Rn} {t : Tk} (h : s.In L) : (leaveS L s t).In L := by
  obtain ⟨h1, h2, h3⟩ := h
  refine ⟨h1, h2, ?_⟩
  cases L
  · simpa [leaveS] using h3
  · simp [leaveS, h3]
/-- All functions are valid. -/
structure AllV (fs : List Fn) : Prop where
  len : 1 ≤ fs.length ∧ fs.length ≤ 32
  all : ∀ f ∈ fs, Valid fs f
  ok : ∀ f ∈ fs, f.Ok
theorem code_of {fs : List Fn} (f : Fn) {k : Int} (h : fs[k.toNat]? = some f) : codeOf fs k = f.code := by simp [codeOf, h]
theorem AllV.fn {fs : List Fn} (h : AllV fs) {k : Int} (hk : 0 ≤ k ∧ k < fs.length) : ∃ f, fs[k.toNat]? = some f ∧ f ∈ fs ∧ codeOf fs k = f.code ∧ Valid fs f ∧ f.Ok := by
  have e : fs[k.toNat]? = some (fs[k.toNat]'(by omega)) := by simp
  have hm : fs[k.toNat]'(by omega) ∈ fs := List.getElem_mem _
  exact ⟨_, e, hm, code_of _ e, h.all _ hm, h.ok _ hm⟩
structure DoneOk (L : Bool) (s : Rn) (t : Tk) (v sp : Int) (s' : Rn) : Prop where
  okv : okI v
  nonneg : 0 ≤ sp
  span : sp + s'.fuel ≤ imax t.span t.due + s.fuel
  fuel : s'.fuel ≤ s.fuel
  run : s'.In L
  tasks : s.tasks ≤ s'.tasks
theorem loop_in {fs : List Fn} (hA : AllV fs) (L : Bool) : ∀ (g : Nat) (s : Rn) (t : Tk) (at_ : Nat), s.In L → t.In fs s.fuel → at_ < (codeOf fs t.node.func).length → ∀ v sp s', loopV fs L g s t at_ = .done v sp s' → DoneOk L s t v sp s'
  | 0, s, t, at_, hs, ht, hat, v, sp, s', h => by simp [loopV] at h
  | g + 1, s, t, at_, hs, ht, hat, v, sp, s', h => by
    unfold loopV at h
    split at h
    · cases h
    · rename_i h0
      obtain ⟨m, hm⟩ : ∃ m, s.fuel = m + 1 := ⟨s.fuel - 1, by omega⟩
      have hpf : (payS s).fuel = m := by simp [payS, hm]
      obtain ⟨f, hf, _, hcf, hV, hok⟩ := hA.fn ht.func
      rw [hcf] at hat
      obtain ⟨i, hi⟩ : ∃ i, f.code[at_]? = some i := ⟨f.code[at_]'hat, by simp⟩
      rw [hcf, hi] at h
      simp only at h
      have so := step_ok hV hi
      have hik := (hok.code i (List.mem_of_getElem? hi)).k
      rw [hm] at ht
      have hmm : m ≤ 8388608 := by have := hs.tasks; omega
      have low : ∀ {t' : Tk} {s1 : Rn} {v sp s'}, s1.fuel ≤ m → s.tasks ≤ s1.tasks → (imax t'.span t'.due + s1.fuel ≤ imax t.span t.due + s.fuel) → DoneOk L s1 t' v sp s' → DoneOk L s t v sp s' := by
        intro t' s1 v sp s' e1 e2 e3 d
        obtain ⟨d1, d2, d3, d4, d5, d6⟩ := d
        exact ⟨d1, d2, by omega, by omega, d5, by omega⟩
      have hp : imax (payT t).span (payT t).due + (payS s).fuel ≤ imax t.span t.due + s.fuel := by
        have h1 := le_imax t.span t.due
        have h2 : imax (payT t).span (payT t).due ≤ imax t.span t.due + 1 := imax_le (by simp only [payT]; omega) (by simp only [payT]; omega)
        rw [hpf, hm]
        omega
      split at h
      · rename_i k3
        refine low (s1 := payS s) (by omega) (Nat.le_refl _) hp (loop_in hA L g _ _ _ hs.pay (by rw [hpf]; exact ht.pay) ?_ _ _ _ h)
        show _ < (codeOf fs t.node.func).length
        rw [hcf]; have := so.jump k3; omega
      · split at h
        · rename_i k3 k4
          refine low (s1 := payS s) (by omega) (Nat.le_refl _) hp (loop_in hA L g _ _ _ hs.pay (by rw [hpf]; exact ht.pay) ?_ _ _ _ h)
          show _ < (codeOf fs t.node.func).length
          rw [hcf]; have := so.branch k4; have := so.next k3 (by omega); split <;> omega
        · split at h
          · rename_i k3 k4 k5
            split at h
            · cases h
            · rename_i hd
              split at h
              · cases h
              · rename_i v1 sp1 s2 hr
                have hdp := ht.depth
                obtain ⟨d1, d2, d3, d4, d5, d6⟩ := loop_in hA L g _ _ _ (hs.enter h0 (by simp only [childV, payT] at hd ⊢; omega)) (by
                  show Tk.In fs _ (payS s).fuel
                  rw [hpf]; exact ht.child so k5 hd hmm (by have := hs.tasks; simp only [payS]; omega)) (by
                    show 0 < (codeOf fs i.b).length
                    obtain ⟨f2, _, _, hc2, hV2, _⟩ := hA.fn (so.fn k5)
                    rw [hc2]
                    have := (valid_bounds hV2).2.2.2.1
                    omega) _ _ _ hr
                have hz : imax (enterT (payS s) (childV fs (payT t) i)).span (enterT (payS s) (childV fs (payT t) i)).due = 0 := rfl
                have hz2 : (enterS L (payS s) (childV fs (payT t) i)).fuel = m := hpf
                have hz3 : (enterS L (payS s) (childV fs (payT t) i)).tasks = s.tasks + 1 := rfl
                rw [hz, hz2] at d3
                rw [hz2] at d4
                rw [hz3] at d6
                refine low (by omega) (by omega) ?_ (loop_in hA L g _ _ _ d5 (ht.got d1 d2 (by omega)) ?_ _ _ _ h)
                · have h1 := le_imax t.span t.due
                  have h2 : imax (gotT (spawnT (payT t)) i.a.toNat v1 sp1).span (gotT (spawnT (payT t)) i.a.toNat v1 sp1).due ≤ imax t.span t.due + m + 1 - s2.fuel := imax_le (by simp only [gotT, spawnT, payT]; omega) (imax_le (by simp only [spawnT, payT]; omega) (by simp only [spawnT, payT]; omega))
                  rw [hm]
                  omega
                · show _ < (codeOf fs t.node.func).length
                  rw [hcf]; exact so.next k3 (by omega)
          · split at h
            · rename_i k3 k4 k5 k6
              refine low (s1 := payS s) (by omega) (Nat.le_refl _) ?_ (loop_in hA L g _ _ _ hs.pay (by rw [hpf]; exact ht.wait) ?_ _ _ _ h)
              · have h1 := le_imax t.span t.due
                have h2 : imax (waitT (payT t)).span (waitT (payT t)).due ≤ imax t.span t.due + 1 := imax_le (imax_le (by simp only [payT]; omega) (by simp only [payT]; omega)) (by simp only [waitT, payT]; omega)
                rw [hpf, hm]
                omega
              · show _ < (codeOf fs t.node.func).length
                rw [hcf]; exact so.next k3 (by omega)
            · split at h
              · rename_i k3 k4 k5 k6 k9
                injection h with h1 h2 h3
                subst h1 h2 h3
                refine ⟨getD_ok ht.okr _, by have := ht.span; omega, ?_, ?_, hs.pay.leave, Nat.le_refl _⟩
                · show t.span + 1 + ((payS s).fuel : Int) ≤ _
                  rw [hpf, hm]
                  have := le_imax t.span t.due
                  omega
                · show (payS s).fuel ≤ _
                  omega
              · rename_i k3 k4 k5 k6 k9
                refine low (s1 := payS s) (by omega) (Nat.le_refl _) ?_ (loop_in hA L g _ _ _ hs.pay (by rw [hpf]; exact ht.pay.compute i hik) ?_ _ _ _ h)
                · have : (computeT (payT t) i).span = (payT t).span ∧ (computeT (payT t) i).due = (payT t).due := by
                    unfold computeT setR
                    repeat' split
                    all_goals exact ⟨rfl, rfl⟩
                  rw [this.1, this.2]
                  exact hp
                · have : (computeT (payT t) i).node = (payT t).node := by
                    unfold computeT setR
                    repeat' split
                    all_goals rfl
                  rw [this]
                  show _ < (codeOf fs t.node.func).length
                  rw [hcf]; exact so.next k3 k9
end Go.Proofs.YtokfbagacehbgaaDoor
