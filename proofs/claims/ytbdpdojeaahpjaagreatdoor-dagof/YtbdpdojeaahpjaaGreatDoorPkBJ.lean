import Derived.Test.YtbdpdojeaahpjaaGreatDoorPkBI
import Derived.Test.YtbdpdojeaahpjaaGreatDoorPkAS
import Derived.OwnWalk
/-! A run traced, plainly: the whole walk. -/
namespace Go.Proofs.YtbdpdojeaahpjaaGreatDoor
set_option linter.unusedVariables false
set_option maxRecDepth 20000
open Go.RowKit Go.PlainOps

/-- What a task leaves behind, from an instruction on to its end. -/
structure Left (T T2 : Trc) (D more : List Int) (m : Nat) (par : Option Nat) (T0 : Int) (t : Tk) (sp : Int) (s s2 : Rn) : Prop where
  dst : Dst T2 (D ++ more)
  fuel : T2.n + s2.fuel = T.n + s.fuel
  lens : T2.lasts.length = s2.tasks ∧ T2.ends.length = s2.tasks
  kept : Kept T T2 m par
  fin : ∃ e, e + 1 = T2.n ∧ (D ++ more).getD e 0 = T0 + sp ∧ ∀ p, par = some p → T2.ends.getD p [] = T.ends.getD p [] ++ [e]
  top : ∀ x ∈ more, x ≤ T0 + sp
  span : t.span + 1 ≤ sp
  due : t.due ≤ sp
  es : T2.es.length + rootW par t.node.work + s.tasks + T.n = T.es.length + T2.n + s2.tasks + (T.ends.getD m []).length
  tasks : s.tasks ≤ s2.tasks
  sub : ∀ x ∈ T.es, x ∈ T2.es
  outs : ∀ k, T.n ≤ k → k + 1 < T2.n → ∃ x ∈ T2.es, x.1 = k
  fedE : ∀ k ∈ T.ends.getD m [], ∃ x ∈ T2.es, x.1 = k
  fedL : 1 ≤ t.node.work → ∃ x ∈ T2.es, x.1 = T.lasts.getD m 0
  ins : ∀ k, T.n ≤ k → k < T2.n → 0 < k → ∃ x ∈ T2.es, x.2 = k
  most : T.n + s2.tasks + 1 ≤ T2.n + s.tasks
theorem add_n (T : Trc) (num : Nat) (work : Int) (par : Option Nat) (i : Ins) : (addV T num work par i).n = T.n + 1 := by
  unfold addV; rw [mark_n]
  unfold clearT openT
  (repeat' split) <;> rfl
/-- One instruction that neither spawns, waits nor ends, ahead of what is left. -/
theorem Left.after {T T2 : Trc} {D more : List Int} {m : Nat} {par : Option Nat} {T0 d : Int} {t t1 : Tk} {sp : Int} {s s1 s2 : Rn} {work : Int} {i : Ins} {out : Prop} (h : Left (addV T m work par i) T2 (D ++ [d]) more m par T0 t1 sp s1 s2)
    (hf : s1.fuel + 1 = s.fuel) (ht : s1.tasks = s.tasks) (hd : d ≤ T0 + t1.span) (hsp : t.span ≤ t1.span) (hdu : t.due ≤ t1.due)
    (hl : ∀ j, j < m → (addV T m work par i).lasts.getD j 0 = T.lasts.getD j 0) (he : ∀ j, j < m → (addV T m work par i).ends.getD j [] = T.ends.getD j []) (hup : ∀ p, par = some p → p < m)
    (hw : rootW par t1.node.work = 0) (hes : (addV T m work par i).es.length + rootW par t.node.work + ((addV T m work par i).ends.getD m []).length = T.es.length + 1 + (T.ends.getD m []).length)
    (hA : Adds T (addV T m work par i) m t.node.work) (hE : ∀ k ∈ T.ends.getD m [], k ∈ (addV T m work par i).ends.getD m [] ∨ ∃ x ∈ (addV T m work par i).es, x.1 = k) (h1 : 1 ≤ t1.node.work) : Left T T2 D (d :: more) m par T0 t sp s s2 := by
  have hn := add_n T m work par i
  have hF := h.fuel
  have hS := h.span
  have hD := h.due
  refine ⟨?_, ?_, h.lens, ⟨fun j hj => (h.kept.lasts j hj).trans (hl j hj), fun j hj hp => (h.kept.ends j hj hp).trans (he j hj)⟩, ?_, ?_, ?_, ?_, ?_, ?_, fun x hx => h.sub x (hA.sub x hx), ?_, ?_, ?_, ?_, by have := h.most; omega⟩
  · have := h.dst; rwa [List.append_assoc] at this
  · omega
  · obtain ⟨e, h1, h2, h3⟩ := h.fin
    refine ⟨e, h1, by rw [List.append_assoc] at h2; exact h2, fun p hp => ?_⟩
    rw [h3 p hp, he p (hup p hp)]
  · intro x hx
    rcases List.mem_cons.1 hx with rfl | hx
    · omega
    · exact h.top x hx
  · omega
  · omega
  · have := h.es; rw [hw] at this; omega
  · have := h.tasks; omega
  · intro k hk hk2
    by_cases e : k = T.n
    · obtain ⟨x, hx, ex⟩ := h.fedL h1
      exact ⟨x, hx, by rw [ex, hA.last, e]⟩
    · exact h.outs k (by omega) hk2
  · intro k hk
    rcases hE k hk with e | ⟨x, hx, ex⟩
    · exact h.fedE k e
    · exact ⟨x, h.sub x hx, ex⟩
  · intro hw2
    obtain ⟨x, hx, ex⟩ := hA.fedL hw2
    exact ⟨x, h.sub x hx, ex⟩
  · intro k hk hk2 hk0
    by_cases e : k = T.n
    · subst e
      obtain ⟨x, hx, ex⟩ := hA.ins hk0
      exact ⟨x, h.sub x hx, ex⟩
    · exact h.ins k (by omega) hk2 hk0
theorem walk_law {fs : List Fn} (hA : AllV fs) : ∀ (g : Nat) (s : Rn) (t : Tk) (at_ : Nat) (v sp : Int) (s2 : Rn), loopV fs false g s t at_ = .done v sp s2 →
    ∀ (T : Trc) (D : List Int) (t' : Tk) (par : Option Nat) (T0 : Int) (m : Nat) (sl : List Int) (f : Fn), SameT t t' → t.number = m → (0 ≤ t.node.func ∧ t.node.func < fs.length) → fs[t.node.func.toNat]? = some f → Along f (at_ : Int) sl → Stt T D m s.tasks t par T0 (1 ∈ sl) →
    ∃ T2 more, walkV fs g s.tasks T t' par at_ = some (v, s2.tasks, T2) ∧ Left T T2 D more m par T0 t sp s s2
  | 0, s, t, at_, v, sp, s2, h, T, D, t', par, T0, m, sl, f, hS, hm, hfu, hf, hal, hst => by simp [loopV] at h
  | g + 1, s, t, at_, v, sp, s2, h, T, D, t', par, T0, m, sl, f, hS, hm, hfu, hf, hal, hst => by
    have hp : SameT (payT t) (payT t') := ⟨hS.regs, hS.slots, by simp only [payT, hS.node], hS.number, hS.spawned⟩
    obtain ⟨f', hf', hfm, hcf, hV, hok⟩ := hA.fn hfu
    rw [hf] at hf'
    cases hf'
    have hmm : t'.number.toNat = m := by rw [hS.number, hm]; rfl
    have hw0 : 0 ≤ t.node.work := by rcases hst.is with ⟨e, _⟩ | ⟨e, _⟩ <;> omega
    have hnn : 0 ≤ T0 ∧ 0 ≤ t.span ∧ 0 ≤ t.due := by
      rcases hst.is with ⟨_, e1, e2, e3⟩ | ⟨_, e3⟩
      · exact ⟨e3.t0, by omega, by omega⟩
      · exact e3.owes.nn
    have hpw : ∀ w : Int, 0 ≤ w → rootW par (w + 1) = 0 := fun w hw => by unfold rootW; rw [if_neg (by omega)]
    unfold loopV at h
    unfold walkV
    rw [hS.node, hmm]
    split at h
    · cases h
    · rename_i h0
      have hfl : (payS s).fuel + 1 = s.fuel := by simp only [payS]; omega
      cases hc : (codeOf fs t.node.func)[at_]? with
      | none => rw [hc] at h; cases h
      | some i =>
        rw [hc] at h
        simp only at h ⊢
        have hi : f.code[at_]? = some i := by rw [← hcf]; exact hc
        have hi' : f.code[((at_ : Int)).toNat]? = some i := hi
        have so := step_ok hV hi
        have hcl := along_clean hV hal hi'
        -- an instruction that goes on, with the same slots
        have plain : ∀ (t1 t1' : Tk) (b : Nat), i.kind ≠ 5 → i.kind ≠ 6 → i.kind ≠ 9 → Along f (b : Int) sl → t1.node = (payT t).node → t1.span = t.span + 1 → t1.due = t.due → t1.number = t.number → SameT t1 t1' → loopV fs false g (payS s) t1 b = .done v sp s2 →
            ∃ T2 more, walkV fs g s.tasks (addV T m t.node.work par i) t1' par b = some (v, s2.tasks, T2) ∧ Left T T2 D more m par T0 t sp s s2 := by
          intro t1 t1' b k5 k6 k9 hb en es ed em hs1 hl
          obtain ⟨q1, q2, q3, q4⟩ := hst.step k6 k9
          obtain ⟨T2, more, r1, r2⟩ := walk_law hA g (payS s) t1 b v sp s2 hl _ _ t1' par T0 m sl f hs1 (by rw [em]; exact hm) (by rw [en]; exact hfu) (by rw [en]; exact hf) hb ⟨hst.up, .inr ⟨by rw [en]; show 1 ≤ t.node.work + 1; omega, by rw [es, ed]; exact q1⟩⟩
          exact ⟨T2, _, r1, r2.after (out := 1 ∈ sl) hfl rfl (by rw [es]; omega) (by omega) (by omega) q2 (fun j hj => q3 j (by omega)) hst.up (by rw [en]; exact hpw _ hw0) (by rw [q3 m (Nat.le_refl _)]; omega) (hst.adds i).1 (fun k hk => .inl (by rw [q3 m (Nat.le_refl _)]; exact hk)) (by rw [en]; show 1 ≤ t.node.work + 1; omega)⟩
        by_cases k3 : i.kind = 3
        · rw [if_pos k3] at h ⊢
          have ha := along_step hV hal hi' false (by omega)
          rw [stepSl, if_neg (by omega), if_neg (by omega), stepAt, if_pos k3, show i.a = ((i.a.toNat : Nat) : Int) by have := so.jump k3; omega] at ha
          exact plain _ _ _ (by omega) (by omega) (by omega) ha rfl rfl rfl rfl hp h
        · rw [if_neg k3] at h ⊢
          by_cases k4 : i.kind = 4
          · rw [if_pos k4] at h ⊢
            rw [hS.regs]
            refine plain _ _ _ (by omega) (by omega) (by omega) ?_ rfl rfl rfl rfl hp h
            split
            · have ha := along_step hV hal hi' false (by omega)
              rw [stepSl, if_neg (by omega), if_neg (by omega), stepAt, if_neg k3, if_neg (by simp)] at ha
              exact ha
            · have ha := along_step hV hal hi' true (by omega)
              rw [stepSl, if_neg (by omega), if_neg (by omega), stepAt, if_neg k3, if_pos ⟨k4, rfl⟩, show i.b = ((i.b.toNat : Nat) : Int) by have := so.branch k4; omega] at ha
              exact ha
          · rw [if_neg k4] at h ⊢
            by_cases k5 : i.kind = 5
            · rw [if_pos k5] at h ⊢
              split at h
              · cases h
              · split at h
                · cases h
                · rename_i v1 sp1 s1 hr
                  have hch : SameT (enterT (payS s) (childV fs (payT t) i)) (enterT ⟨0, s.tasks, 0, []⟩ (childV fs (payT t') i)) := by
                    have e1 : (childV fs (payT t') i).regs = (childV fs (payT t) i).regs := by show argsV t'.regs _ _ = argsV t.regs _ _; rw [hS.regs]
                    have e2 : (childV fs (payT t') i).node = (childV fs (payT t) i).node := by
                      show (⟨t'.number, t'.spawned, i.b, 0, pedV (payT t').node.ped t'.spawned, 0, 0⟩ : Nd) = ⟨t.number, t.spawned, i.b, 0, pedV (payT t).node.ped t.spawned, 0, 0⟩
                      rw [hS.number, hS.spawned, hp.node]
                    exact ⟨e1, rfl, by simp only [enterT, e1, e2], rfl, rfl⟩
                  obtain ⟨q1, q2, q3, q4⟩ := hst.step (i := i) (by omega) (by omega)
                  have AD := (hst.adds i).1
                  have hb := so.fn k5
                  obtain ⟨f2, hf2, _, hcf2, hV2, _⟩ := hA.fn hb
                  have hmt := q1.m_lt
                  have hfresh : Fresh (addV T m t.node.work par i) (D ++ [T0 + t.span + 1]) s.tasks (s.tasks + 1) (some m) (T0 + t.span + 1) :=
                    ⟨q1.dst, q1.lens, rfl, by omega, (fun e => nomatch e), fun p e => by cases e; exact ⟨hmt, q1.last, by rw [q1.dist]; omega⟩⟩
                  obtain ⟨T1, more1, r1, r2⟩ := walk_law hA g _ _ 0 v1 sp1 s1 hr (addV T m t.node.work par i) (D ++ [T0 + t.span + 1]) _ (some m) (T0 + t.span + 1) s.tasks (List.replicate 8 0) f2 hch rfl hb hf2 (along_start (good_of hV2.shape hV2.code) (valid_bounds hV2).2.2.1.1) ⟨fun p e => by cases e; exact hmt, .inl ⟨rfl, rfl, rfl, hfresh⟩⟩
                  have r1' : walkV fs g (s.tasks + 1) (addV T m t.node.work par i) (enterT ⟨0, s.tasks, 0, []⟩ (childV fs (payT t') i)) (some m) 0 = some (v1, s1.tasks, T1) := r1
                  rw [r1']
                  simp only
                  have ha := along_step hV hal hi' false (by omega)
                  rw [stepSl, if_pos k5, stepAt, if_neg k3, if_neg (by omega)] at ha
                  obtain ⟨e, he1, he2, he3⟩ := r2.fin
                  have he3 := he3 m rfl
                  have hlen1 := q1.dst.len
                  have hlen2 := r2.dst.len
                  have hold : ∀ k, k < (addV T m t.node.work par i).n → (D ++ [T0 + t.span + 1] ++ more1).getD k 0 = (D ++ [T0 + t.span + 1]).getD k 0 := fun k hk => getD_app 0 (by omega)
                  have hn1 : (addV T m t.node.work par i).n ≤ T1.n := by rw [← hlen1, ← hlen2, List.length_append (bs := more1)]; omega
                  have htk : s.tasks + 1 ≤ s1.tasks := r2.tasks
                  have L := imax_l t.due (t.span + 1 + sp1)
                  have R := imax_r t.due (t.span + 1 + sp1)
                  have O := imax_or t.due (t.span + 1 + sp1)
                  have hspn : 1 ≤ sp1 := r2.span
                  have hg : Going T1 (D ++ [T0 + t.span + 1] ++ more1) m s1.tasks T0 (t.span + 1) (imax t.due (t.span + 1 + sp1)) (1 ∈ sl.set i.a.toNat 1) := by
                    have el : T1.lasts.getD m 0 = (addV T m t.node.work par i).lasts.getD m 0 := r2.kept.lasts m hmt
                    have hla := q1.last
                    refine ⟨r2.dst, r2.lens, by omega, by rw [el]; omega, by rw [el, hold _ hla]; exact q1.dist, ?_⟩
                    refine ⟨?_, ?_, ?_, ⟨hnn.1, by omega, by omega⟩⟩
                    · rw [he3]
                      intro x hx
                      rcases List.mem_append.1 hx with hx | hx
                      · obtain ⟨c1, c2⟩ := q1.owes.cap x hx
                        exact ⟨by omega, by rw [hold _ c1]; omega⟩
                      · rw [List.mem_singleton.1 hx]
                        exact ⟨by omega, by rw [he2]; omega⟩
                    · rw [he3]
                      rcases O with O | O
                      · rw [O]
                        rcases q1.owes.hit with ⟨x, hx, ex⟩ | ex | ex
                        · exact .inl ⟨x, List.mem_append.2 (.inl hx), by rw [hold _ (q1.owes.cap x hx).1]; exact ex⟩
                        · exact .inr (.inl ex)
                        · exact .inr (.inr ex)
                      · exact .inl ⟨e, List.mem_append.2 (.inr (List.mem_singleton.2 rfl)), by rw [he2]; omega⟩
                    · intro _
                      have hsl := so.slot k5
                      exact List.mem_iff_getElem.2 ⟨i.a.toNat, by rw [List.length_set, hal.len]; omega, by simp⟩
                  obtain ⟨T2, more2, u1, u2⟩ := walk_law hA g s1 _ _ v sp s2 h T1 (D ++ [T0 + t.span + 1] ++ more1) (gotT (spawnT (payT t')) i.a.toNat v1 0) par T0 m (sl.set i.a.toNat 1) f ⟨hS.regs, by show t'.slots.set _ _ = t.slots.set _ _; rw [hS.slots], hp.node, hS.number, by show t'.spawned + 1 = t.spawned + 1; rw [hS.spawned]⟩ hm hfu hf ha ⟨hst.up, .inr ⟨by show 1 ≤ t.node.work + 1; omega, hg⟩⟩
                  have u_sp : t.span + 1 + 1 ≤ sp := u2.span
                  have u_du : imax t.due (t.span + 1 + sp1) ≤ sp := u2.due
                  refine ⟨T2, (T0 + t.span + 1) :: (more1 ++ more2), u1, ?_⟩
                  have hass : D ++ (T0 + t.span + 1) :: (more1 ++ more2) = D ++ [T0 + t.span + 1] ++ more1 ++ more2 := by simp
                  have hf1 : T1.n + s1.fuel = (addV T m t.node.work par i).n + (payS s).fuel := r2.fuel
                  have hf2 := u2.fuel
                  have hn0 := add_n T m t.node.work par i
                  have hkl : ∀ j, j < m → T1.lasts.getD j 0 = T.lasts.getD j 0 := fun j hj => (r2.kept.lasts j (by omega)).trans (q2 j hj)
                  have hke : ∀ j, j < m → T1.ends.getD j [] = T.ends.getD j [] := fun j hj => (r2.kept.ends j (by omega) (by intro e; cases e; omega)).trans (q3 j (by omega))
                  refine ⟨by rw [hass]; exact u2.dst, by omega, u2.lens, ⟨fun j hj => (u2.kept.lasts j hj).trans (hkl j hj), fun j hj hpj => (u2.kept.ends j hj hpj).trans (hke j hj)⟩, ?_, ?_, by omega, by omega, ?_, by have := u2.tasks; omega, fun x hx => u2.sub x (r2.sub x (AD.sub x hx)), ?_, ?_, ?_, ?_, by have z := u2.most; have y : (addV T m t.node.work par i).n + s1.tasks + 1 ≤ T1.n + (s.tasks + 1) := r2.most; omega⟩
                  · obtain ⟨e2, w1, w2, w3⟩ := u2.fin
                    exact ⟨e2, w1, by rw [hass]; exact w2, fun p hpp => by rw [w3 p hpp, hke p (hst.up p hpp)]⟩
                  · intro x hx
                    rcases List.mem_cons.1 hx with rfl | hx
                    · omega
                    · rcases List.mem_append.1 hx with hx | hx
                      · have := r2.top x hx; omega
                      · exact u2.top x hx
                  · have z1 : T1.es.length + rootW (some m) (0 : Int) + (s.tasks + 1) + (addV T m t.node.work par i).n = (addV T m t.node.work par i).es.length + T1.n + s1.tasks + ((addV T m t.node.work par i).ends.getD s.tasks []).length := r2.es
                    have z2 : T2.es.length + rootW par (t.node.work + 1) + s1.tasks + T1.n = T1.es.length + T2.n + s2.tasks + (T1.ends.getD m []).length := u2.es
                    have z3 : rootW (some m) (0 : Int) = 0 := rfl
                    have z4 : (addV T m t.node.work par i).ends.getD s.tasks [] = [] := by rw [List.getD_eq_getElem?_getD, List.getElem?_eq_none (by rw [q1.lens.2]; omega)]; rfl
                    rw [z3, z4] at z1
                    rw [hpw _ hw0, he3, q3 m (Nat.le_refl _), List.length_append] at z2
                    simp only [List.length_nil, List.length_cons] at z1 z2
                    omega
                  · intro k hk hk2
                    by_cases c1 : k = T.n
                    · obtain ⟨x, hx, ex⟩ := u2.fedL (by show 1 ≤ t.node.work + 1; omega)
                      exact ⟨x, hx, by rw [ex, r2.kept.lasts m hmt, AD.last, c1]⟩
                    · by_cases c2 : k + 1 < T1.n
                      · obtain ⟨x, hx, ex⟩ := r2.outs k (by omega) c2
                        exact ⟨x, u2.sub x hx, ex⟩
                      · by_cases c3 : k + 1 = T1.n
                        · have : k = e := by omega
                          subst this
                          exact u2.fedE k (by rw [he3]; exact List.mem_append.2 (.inr (List.mem_singleton.2 rfl)))
                        · exact u2.outs k (by omega) hk2
                  · intro k hk
                    exact u2.fedE k (by rw [he3, q3 m (Nat.le_refl _)]; exact List.mem_append.2 (.inl hk))
                  · intro hw2
                    obtain ⟨x, hx, ex⟩ := AD.fedL hw2
                    exact ⟨x, u2.sub x (r2.sub x hx), ex⟩
                  · intro k hk hk2 hk0
                    by_cases c1 : k = T.n
                    · subst c1
                      obtain ⟨x, hx, ex⟩ := AD.ins hk0
                      exact ⟨x, u2.sub x (r2.sub x hx), ex⟩
                    · by_cases c2 : k < T1.n
                      · obtain ⟨x, hx, ex⟩ := r2.ins k (by omega) c2 hk0
                        exact ⟨x, u2.sub x hx, ex⟩
                      · exact u2.ins k (by omega) hk2 hk0
            · rw [if_neg k5] at h ⊢
              by_cases k6 : i.kind = 6
              · rw [if_pos k6] at h
                rw [if_neg (by omega)]
                have ec : computeT (payT t') i = payT t' := by
                  unfold computeT
                  rw [if_neg (by omega), if_neg (by omega), if_neg (by omega), if_neg (by omega), if_neg (by omega)]
                rw [ec]
                have ha := along_step hV hal hi' false (by omega)
                rw [stepSl, if_neg k5, if_pos k6, stepAt, if_neg k3, if_neg (by omega)] at ha
                obtain ⟨q1, q2, q3, q4, q5⟩ := hst.wait k6 (1 ∈ syncV sl)
                obtain ⟨T2, more, r1, r2⟩ := walk_law hA g (payS s) _ _ v sp s2 h (addV T m t.node.work par i) _ (payT t') par T0 m (syncV sl) f ⟨hp.regs, hp.slots, hp.node, hp.number, hp.spawned⟩ hm hfu hf ha ⟨hst.up, .inr ⟨by show 1 ≤ t.node.work + 1; omega, q1⟩⟩
                have L := imax_l (t.span + 1) (t.due + 1)
                exact ⟨T2, _, r1, r2.after (out := 1 ∈ sl) hfl rfl (Int.le_refl _) (by show t.span ≤ imax (t.span + 1) (t.due + 1); omega) (Int.le_refl _) q2 q3 hst.up (hpw _ hw0) (by rw [q4]; simp only [List.length_nil]; omega) (hst.adds i).1 (fun k hk => .inr ((hst.adds i).2 k6 k hk)) (by show 1 ≤ t.node.work + 1; omega)⟩
              · rw [if_neg k6] at h
                by_cases k9 : i.kind = 9
                · rw [if_pos k9] at h ⊢
                  injection h with e1 e2 e3
                  subst e3
                  obtain ⟨q1, q2, q3, q4, q5, q6⟩ := hst.ret k9
                  have hno : ¬ 1 ∈ sl := by
                    intro hmem
                    unfold cleanV at hcl
                    rw [if_neg (by omega), if_neg (by omega), if_pos k9, List.all_eq_true] at hcl
                    have := hcl 1 hmem
                    simp at this
                  have hen : T.ends.getD m [] = [] := by
                    rcases hst.is with ⟨_, _, _, e⟩ | ⟨_, e⟩
                    · rw [List.getD_eq_getElem?_getD, List.getElem?_eq_none (by rw [e.lens.2]; exact Nat.le_refl _)]; rfl
                    · exact Classical.byContradiction fun hh => hno (e.owes.pend hh)
                  have hdue : t.due ≤ t.span := by
                    rcases hst.is with ⟨_, e3, e4, _⟩ | ⟨_, e⟩
                    · omega
                    · have := e.owes.hit
                      rw [hen] at this
                      rcases this with ⟨_, hx, _⟩ | hx | hx
                      · cases hx
                      · omega
                      · omega
                  have hdl : D.length = T.n := by rcases hst.is with ⟨_, _, _, e⟩ | ⟨_, e⟩ <;> exact e.dst.len
                  rw [hS.regs, e1]
                  refine ⟨_, [T0 + t.span + 1], rfl, ⟨q1, ?_, q3, q4, ⟨T.n, q2.symm, by rw [getD_appR 0 hdl.symm, ← e2]; omega, q5⟩, ?_, by omega, by omega, ?_, Nat.le_refl _, (hst.adds i).1.sub, ?_, ?_, (hst.adds i).1.fedL, ?_, by rw [q2]; show T.n + s.tasks + 1 ≤ T.n + 1 + s.tasks; omega⟩⟩
                  · rw [q2]
                    show T.n + 1 + (payS s).fuel = T.n + s.fuel
                    omega
                  · intro x hx
                    rw [List.mem_singleton.1 hx]; omega
                  · rw [q2, hen]
                    show _ + _ + s.tasks + T.n = T.es.length + (T.n + 1) + s.tasks + 0
                    omega
                  · intro k hk hk2
                    rw [q2] at hk2
                    omega
                  · intro k hk
                    rw [hen] at hk
                    cases hk
                  · intro k hk hk2 hk0
                    rw [q2] at hk2
                    have : k = T.n := by omega
                    subst this
                    exact (hst.adds i).1.ins hk0
                · rw [if_neg k9] at h ⊢
                  have hcm : SameT (computeT (payT t) i) (computeT (payT t') i) := by
                    unfold computeT
                    rw [hp.regs, hp.slots, hp.node]
                    have hset : ∀ a x, SameT (setR (payT t) a x) (setR (payT t') a x) := fun a x => ⟨by show (payT t').regs.set a x = (payT t).regs.set a x; rw [hp.regs], hp.slots, hp.node, hp.number, hp.spawned⟩
                    repeat' split
                    all_goals first
                      | exact hset _ _
                      | exact hp
                  have hcn : (computeT (payT t) i).node = (payT t).node ∧ (computeT (payT t) i).span = t.span + 1 ∧ (computeT (payT t) i).due = t.due ∧ (computeT (payT t) i).number = t.number := by
                    unfold computeT
                    repeat' split
                    all_goals exact ⟨rfl, rfl, rfl, rfl⟩
                  have ha := along_step hV hal hi' false k9
                  rw [stepSl, if_neg k5, if_neg k6, stepAt, if_neg k3, if_neg (by omega)] at ha
                  exact plain _ _ _ k5 k6 k9 ha hcn.1 hcn.2.1 hcn.2.2.1 hcn.2.2.2 hcm h
end Go.Proofs.YtbdpdojeaahpjaaGreatDoor
/-! A run traced, plainly: the dag of a run. -/
namespace Go.Proofs.YtbdpdojeaahpjaaGreatDoor
set_option linter.unusedVariables false
set_option maxRecDepth 20000
open Go.RowKit Go.PlainOps

/-- A run that ends has a trace: a node for each instruction, work + tasks - 2 edges, the longest way is the span, each node but the first has an edge to it, each but the last one from it. -/
theorem run_trace {fs : List Fn} (hA : AllV fs) {zs : List Int} {F : Nat} {v sp : Int} {s2 : Rn} (h : runV fs false zs F = .done v sp s2) :
    ∃ T2 D, walkV fs (F + 1) 1 trc0 (enterT ⟨0, 0, 0, []⟩ (rootT zs)) none 0 = some (v, s2.tasks, T2) ∧ Dst T2 D ∧ T2.n + s2.fuel = F ∧ T2.es.length + 2 = T2.n + s2.tasks ∧ (∀ x ∈ D, x ≤ sp) ∧ (∃ e, e < T2.n ∧ D.getD e 0 = sp) ∧ (∀ k, k < T2.n → 0 < k → ∃ x ∈ T2.es, x.2 = k) ∧ (∀ k, k + 1 < T2.n → ∃ x ∈ T2.es, x.1 = k) ∧ s2.tasks ≤ T2.n := by
  unfold runV playV at h
  rw [if_neg (show ¬ (4096 : Int) < (rootT zs).depth by show ¬ (4096 : Int) < 1; omega)] at h
  have h0 : (0 : Int) ≤ (0 : Int) ∧ (0 : Int) < fs.length := ⟨Int.le_refl _, by have := hA.len; omega⟩
  obtain ⟨f, hf, _, hcf, hV, _⟩ := hA.fn h0
  have hd0 : Dst trc0 [] := ⟨rfl, (fun e he => by cases he), (fun e he => by cases he), fun k hk => absurd hk (Nat.not_lt_zero _)⟩
  obtain ⟨T2, more, q1, q2⟩ := walk_law hA (F + 1) _ _ 0 v sp s2 h trc0 [] (enterT ⟨0, 0, 0, []⟩ (rootT zs)) none 0 0 (List.replicate 8 0) f ⟨rfl, rfl, rfl, rfl, rfl⟩ rfl h0 hf (along_start (good_of hV.shape hV.code) (valid_bounds hV).2.2.1.1)
    ⟨(fun p e => nomatch e), .inl ⟨rfl, rfl, rfl, ⟨hd0, ⟨rfl, rfl⟩, rfl, Int.le_refl _, (fun _ => ⟨rfl, rfl⟩), (fun p e => nomatch e)⟩⟩⟩
  refine ⟨T2, more, q1, by simpa using q2.dst, ?_, ?_, fun x hx => by have := q2.top x hx; omega, ?_, fun k hk hk0 => q2.ins k (Nat.zero_le _) hk hk0, fun k hk => q2.outs k (Nat.zero_le _) hk, by have : 0 + s2.tasks + 1 ≤ T2.n + 1 := q2.most; omega⟩
  · have : T2.n + s2.fuel = 0 + F := q2.fuel
    omega
  · have : T2.es.length + 1 + 1 + 0 = 0 + T2.n + s2.tasks + 0 := q2.es
    omega
  · obtain ⟨e, e1, e2, _⟩ := q2.fin
    exact ⟨e, by omega, by simpa using e2⟩
/-- What determines the distances: two lists of distances for one dag agree. -/
theorem Dst.same {T : Trc} {D E : List Int} (h : Dst T D) (h' : Dst T E) : D = E := by
  have key : ∀ k, k < T.n → D.getD k 0 = E.getD k 0 := by
    intro k
    induction k using Nat.strongRecOn with
    | _ k ih =>
      intro hk
      have pos : ∀ {F : List Int}, Dst T F → ∀ j, j < T.n → 1 ≤ F.getD j 0 := by
        intro F hF j
        induction j using Nat.strongRecOn with
        | _ j ihj =>
          intro hj
          rcases hF.hit j hj with e | ⟨e, he, e1, e2⟩
          · omega
          · have := hF.edge e he
            have := ihj e.1 (by omega) (by omega)
            omega
      rcases h.hit k hk with a | ⟨a, ha, a1, a2⟩ <;> rcases h'.hit k hk with b | ⟨b, hb, b1, b2⟩
      · omega
      · have l := h.low b hb
        have := h.edge b hb
        have := pos h b.1 (by omega)
        rw [b1] at l
        omega
      · have l := h'.low a ha
        have := h'.edge a ha
        have := pos h' a.1 (by omega)
        rw [a1] at l
        omega
      · have l := h.low b hb
        have l' := h'.low a ha
        have ea := h.edge a ha
        have eb := h.edge b hb
        have ia := ih a.1 (by omega) (by omega)
        have ib := ih b.1 (by omega) (by omega)
        rw [b1] at l
        rw [a1] at l'
        omega
  refine List.ext_getElem? fun k => ?_
  by_cases hk : k < T.n
  · have := key k hk
    have h1 := h.len
    have h2 := h'.len
    rw [List.getD_eq_getElem?_getD, List.getD_eq_getElem?_getD, List.getElem?_eq_getElem (by omega), List.getElem?_eq_getElem (by omega)] at this
    rw [List.getElem?_eq_getElem (by omega), List.getElem?_eq_getElem (by omega)]
    exact congrArg some this
  · rw [List.getElem?_eq_none (by have := h.len; omega), List.getElem?_eq_none (by have := h'.len; omega)]
end Go.Proofs.YtbdpdojeaahpjaaGreatDoor
/-! dag's trace in memory. -/
namespace Go.Proofs.YtbdpdojeaahpjaaGreatDoor
set_option linter.unusedVariables false
set_option maxRecDepth 20000
open Go.RowKit Go.HeapKit Go.PlainOps

theorem Tryz.twInt : (Tryz.prog.info? 3).map (fun i => (i.zero, i.size, i.bytes)) = some (some (.int .i64 0), 1, 8) := by kernel_rfl
theorem Tryz.twInts : (Tryz.prog.info? 70).map (fun i => (i.zero, i.size, i.bytes)) = some (some (.slice none 0 0), 1, 24) := by kernel_rfl
theorem Tryz.twEdge : (Tryz.prog.info? 39).map (fun i => (i.zero, i.size, i.bytes)) = some (some (.agg #[.int .i64 0, .int .i64 0]), 2, 16) := by kernel_rfl
def natV (l : List Nat) : List Value := l.map (fun k : Nat => Value.int .i64 (k : Int))
def edC (e : Nat × Nat) : List Value := [.int .i64 (e.1 : Int), .int .i64 (e.2 : Int)]
def edV (l : List (Nat × Nat)) : List Value := l.flatMap edC
theorem natV_len (l : List Nat) : (natV l).length = l.length := by simp [natV]
theorem natV_at {l : List Nat} {k x : Nat} (h : l[k]? = some x) : (natV l)[k]? = some (.int .i64 (x : Int)) := by simp [natV, h]
/-- Blocks that only the trace has, from lo on. -/
def trT (T : TypeId) : Prop := T = 73 ∨ T = 39 ∨ T = 3 ∨ T = 70
def TyS (lo : Nat) (w : World) (g : Nat) : Prop := lo ≤ g ∧ ∃ cs T fr, w.heap[g]? = some (.cells cs T fr) ∧ trT T
theorem TyS.trans {lo : Nat} {w w1 w2 : World} (h1 : Keeps (TyS lo w) w w1) (h2 : Keeps (TyS lo w1) w1 w2) : Keeps (TyS lo w) w w2 := h1.trans h2 (fun i e hi => by
  by_cases h : TyS lo w i
  · exact h
  · have hb := h1.block i hi h
    obtain ⟨hl, cs, T, fr, hc, hT⟩ := e
    exact ⟨hl, cs, T, fr, hb.symm.trans hc, hT⟩)
theorem TyS.other {lo : Nat} {w : World} {X : Nat} {cs : Array Value} {T : TypeId} {fr : Nat × Nat} (hb : w.heap[X]? = some (.cells cs T fr)) (hT : ¬ trT T) : ¬ TyS lo w X := by
  rintro ⟨_, cs', T', fr', hb', hT'⟩
  rw [hb] at hb'
  injection hb' with hb'
  injection hb' with _ e
  subst e
  exact hT hT'
theorem TyS.one {lo : Nat} {w w' : World} {b : Nat} (hk : Keeps (· = b) w w') (hl : lo ≤ b) {cs : Array Value} {T : TypeId} (hb : w.heap[b]? = some (.cells cs T (0, 0))) (hT : trT T) : Keeps (TyS lo w) w w' := hk.mono (fun i e _ => by subst e; exact ⟨hl, cs, T, (0, 0), hb, hT⟩)
theorem TyS.new {lo : Nat} {w w' : World} (hk : Keeps None w w') : Keeps (TyS lo w) w w' := hk.mono (fun _ f _ => f.elim)
theorem TyS.row {lo : Nat} {w w' : World} {e : TypeId} {z n : Nat} {v : Value} {X : List Value} (ho : w.ownsRow lo e z v n X) (hT : trT e) (hk : Keeps (fun k => v.ownBlock = some k) w w') : Keeps (TyS lo w) w w' := hk.mono (fun i ei _ => by
  rcases ho.2 with ⟨rfl, _⟩ | ⟨g, cap, cur, rfl, hb, hg, _⟩
  · simp [Value.ownBlock] at ei
  · simp [Value.ownBlock] at ei
    subst ei
    exact ⟨hb, cur, e, (0, 0), hg, hT⟩)
/-- One more element behind a row. -/
theorem row_app (w : World) (lo : Nat) (sl ty e : TypeId) (z by_ : Nat) (zero : Value) (hu : Tryz.prog.underlying sl = some (.slice e)) (hinfo : (Tryz.prog.info? e).map (fun i => (i.zero, i.size, i.bytes)) = some (some zero, z, by_)) (hzc : zero.cells.size = z) (hz : 0 < z)
    (s : Value) (n : Nat) (X : List Value) (h : w.ownsRow lo e z s n X) (g0 : Nat) (cs0 : Array Value) (hg0 : w.heap[g0]? = some (.cells cs0 e (0, 0))) (hcs : cs0.toList.length = 1 * z) (hone : ∀ u ∈ cs0.toList, u.oneCell' = true) (hb : lo ≤ w.heap.size) (hlen : (n + 1) * by_ ≤ 140737488355328) (hn : n + 1 ≤ maxLen) :
    ∃ g cap w', (Builtin.append_ #[sl, sl] ty #[s, .slice (some ⟨g0, 0, none⟩) 1 1]).run Tryz.prog w = .ok (.slice (some ⟨g, 0, none⟩) (n + 1) cap) w' ∧ w'.ownsRow lo e z (.slice (some ⟨g, 0, none⟩) (n + 1) cap) (n + 1) (X ++ cs0.toList) ∧ Keeps (fun k => s.ownBlock = some k) w w' ∧ (s.ownBlock = some g ∨ w.heap.size ≤ g) := by
  obtain ⟨i0, hi, hz0, hz1, hz2⟩ := info_parts hinfo
  obtain ⟨v', w1, hr, ho, hgr, hm, -⟩ := run_append_moved (P := Tryz.prog) w lo sl ty e i0 zero z by_ hu hi hz0 hz1 hz2 hzc hz s n X h ⟨g0, 0, none⟩ 1 1 cs0.toList hcs (by
      intro j u hju
      rw [show (⟨g0, 0, none⟩ : Addr).add j = ⟨g0, j, none⟩ by unfold Addr.add; split <;> simp_all, blk_cell hg0]
      simpa using hju) hone hn hlen hb
  obtain ⟨g, cap, rfl⟩ : ∃ g cap, v' = .slice (some ⟨g, 0, none⟩) (n + 1) cap := by
    rcases ho.2 with ⟨_, h0⟩ | ⟨b, cap, cur, rfl, _⟩
    · omega
    · exact ⟨b, cap, rfl⟩
  refine ⟨g, cap, w1, hr, ho, (Keeps.refl _ w).andGrown hgr (fun k e => .inl e), ?_⟩
  rcases hm with hm | ⟨g', e, hg⟩
  · exact .inl (hm.symm.trans rfl)
  · simp [Value.ownBlock] at e; exact .inr (by omega)
/-- A trace in memory: its block, its edges, the last nodes of the tasks, the ends of their children. -/
structure IsTr (lo : Nat) (w : World) (R : Nat) (T : Trc) (ev lv xv : Value) (vs : List Value) : Prop where
  blk : w.heap[R]? = some (.cells #[.int .i64 (T.n : Int), ev, lv, xv] 73 (0, 0))
  low : lo ≤ R
  es : w.ownsRow lo 39 2 ev T.es.length (edV T.es)
  las : w.ownsRow lo 3 1 lv T.lasts.length (natV T.lasts)
  out : w.ownsRow lo 70 1 xv T.ends.length vs
  inn : ∀ (k : Nat) e v, T.ends[k]? = some e → vs[k]? = some v → w.ownsRow lo 3 1 v e.length (natV e)
  ndl : ∀ (k : Nat) v b, vs[k]? = some v → v.ownBlock = some b → lv.ownBlock ≠ some b
  nd : ∀ (j k : Nat) v u b, vs[j]? = some v → vs[k]? = some u → v.ownBlock = some b → u.ownBlock = some b → j = k
theorem IsTr.len {lo : Nat} {w : World} {R : Nat} {T : Trc} {ev lv xv : Value} {vs : List Value} (h : IsTr lo w R T ev lv xv vs) : vs.length = T.ends.length := by have := h.out.1; omega
theorem IsTr.more {lo : Nat} {w w' : World} {R : Nat} {T : Trc} {ev lv xv : Value} {vs : List Value} (h : IsTr lo w R T ev lv xv vs) (hk : Keeps None w w') : IsTr lo w' R T ev lv xv vs :=
  ⟨blk_kept h.blk hk (fun f => f), h.low, hk.own h.es (fun _ _ f => f), hk.own h.las (fun _ _ f => f), hk.own h.out (fun _ _ f => f), fun k e v he hv => hk.own (h.inn k e v he hv) (fun _ _ f => f), h.ndl, h.nd⟩
/-- What is not of the trace's types changes. -/
theorem IsTr.past {lo : Nat} {w w' : World} {R X : Nat} {T : Trc} {ev lv xv : Value} {vs : List Value} (h : IsTr lo w R T ev lv xv vs) (hk : Keeps (· = X) w w') {cs : Array Value} {U : TypeId} {fr : Nat × Nat} (hX : w.heap[X]? = some (.cells cs U fr)) (hU : ¬ trT U) : IsTr lo w' R T ev lv xv vs := by
  have hown : ∀ {e : TypeId} {z n : Nat} {v : Value} {Y : List Value}, w.ownsRow lo e z v n Y → trT e → w'.ownsRow lo e z v n Y := fun {e z n v Y} ho hT => hk.own ho (fun q eq hq => by
    subst hq
    rcases ho.2 with ⟨rfl, _⟩ | ⟨g, cap, cur, rfl, hb, hg, _⟩
    · simp [Value.ownBlock] at eq
    · simp [Value.ownBlock] at eq
      subst eq
      rw [hg] at hX
      injection hX with hX
      injection hX with _ e1
      subst e1
      exact hU hT)
  refine ⟨blk_kept h.blk hk (fun e => ?_), h.low, hown h.es (.inr (.inl rfl)), hown h.las (.inr (.inr (.inl rfl))), hown h.out (.inr (.inr (.inr rfl))), fun k e v he hv => hown (h.inn k e v he hv) (.inr (.inr (.inl rfl))), h.ndl, h.nd⟩
  subst e
  rw [h.blk] at hX
  injection hX with hX
  injection hX with _ e1
  exact hU (.inl e1.symm)
def Tr (lo : Nat) (w : World) (R : Nat) (T : Trc) : Prop := ∃ ev lv xv vs, IsTr lo w R T ev lv xv vs
/-- The block of a row differs from one of another type. -/
theorem own_not {w : World} {lo : Nat} {e : TypeId} {z n : Nat} {v : Value} {Y : List Value} (ho : w.ownsRow lo e z v n Y) {b : Nat} {cs : Array Value} {U : TypeId} {fr : Nat × Nat} (hb : w.heap[b]? = some (.cells cs U fr)) (hne : U ≠ e) : ¬ v.ownBlock = some b := fun eq => by
  rcases ho.2 with ⟨rfl, _⟩ | ⟨g, cap, cur, rfl, _, hg, _⟩
  · simp [Value.ownBlock] at eq
  · simp [Value.ownBlock] at eq
    subst eq
    rw [hg] at hb
    injection hb with hb
    injection hb with _ e1
    exact hne e1.symm
theorem own_not2 {w : World} {lo lo' : Nat} {e e' : TypeId} {z n z' n' : Nat} {v v' : Value} {Y Y' : List Value} (ho : w.ownsRow lo e z v n Y) (ho' : w.ownsRow lo' e' z' v' n' Y') (hne : e ≠ e') {b : Nat} (h1 : v.ownBlock = some b) : ¬ v'.ownBlock = some b := fun h2 => by
  rcases ho.2 with ⟨rfl, _⟩ | ⟨g, cap, cur, rfl, _, hg, _⟩
  · simp [Value.ownBlock] at h1
  · simp [Value.ownBlock] at h1
    subst h1
    exact own_not ho' hg hne h2
theorem low_of {w : World} {lo : Nat} {e : TypeId} {z n : Nat} {v : Value} {Y : List Value} (ho : w.ownsRow lo e z v n Y) {b : Nat} (h : v.ownBlock = some b) : lo ≤ b ∧ b < w.heap.size := by
  rcases ho.2 with ⟨rfl, _⟩ | ⟨g, cap, cur, rfl, hb, hg, _⟩
  · simp [Value.ownBlock] at h
  · simp [Value.ownBlock] at h
    subst h
    exact ⟨hb, blk_lt hg⟩
end Go.Proofs.YtbdpdojeaahpjaaGreatDoor
/-! The document's walk over a run (plunderref7.Walk) in memory. -/
namespace Go.Proofs.YtbdpdojeaahpjaaGreatDoor
set_option linter.unusedVariables false
set_option maxRecDepth 20000
open Go.RowKit Go.HeapKit Go.PlainOps

def dwT (T : TypeId) : Prop := T = 50 ∨ T = 39
def TyD (lo : Nat) (w : World) (g : Nat) : Prop := lo ≤ g ∧ ∃ cs T fr, w.heap[g]? = some (.cells cs T fr) ∧ dwT T
theorem TyD.trans {lo : Nat} {w w1 w2 : World} (h1 : Keeps (TyD lo w) w w1) (h2 : Keeps (TyD lo w1) w1 w2) : Keeps (TyD lo w) w w2 := h1.trans h2 (fun i e hi => by
  by_cases h : TyD lo w i
  · exact h
  · have hb := h1.block i hi h
    obtain ⟨hl, cs, T, fr, hc, hT⟩ := e
    exact ⟨hl, cs, T, fr, hb.symm.trans hc, hT⟩)
theorem TyD.other {lo : Nat} {w : World} {X : Nat} {cs : Array Value} {T : TypeId} {fr : Nat × Nat} (hb : w.heap[X]? = some (.cells cs T fr)) (hT : ¬ dwT T) : ¬ TyD lo w X := by
  rintro ⟨_, cs', T', fr', hb', hT'⟩
  rw [hb] at hb'
  injection hb' with hb'
  injection hb' with _ e
  subst e
  exact hT hT'
theorem TyD.one {lo : Nat} {w w' : World} {b : Nat} (hk : Keeps (· = b) w w') (hl : lo ≤ b) {cs : Array Value} {T : TypeId} (hb : w.heap[b]? = some (.cells cs T (0, 0))) (hT : dwT T) : Keeps (TyD lo w) w w' := hk.mono (fun i e _ => by subst e; exact ⟨hl, cs, T, (0, 0), hb, hT⟩)
theorem TyD.new {lo : Nat} {w w' : World} (hk : Keeps None w w') : Keeps (TyD lo w) w w' := hk.mono (fun _ f _ => f.elim)
theorem TyD.row {lo : Nat} {w w' : World} {e : TypeId} {z n : Nat} {v : Value} {X : List Value} (ho : w.ownsRow lo e z v n X) (hT : dwT e) (hk : Keeps (fun k => v.ownBlock = some k) w w') : Keeps (TyD lo w) w w' := hk.mono (fun i ei _ => by
  rcases ho.2 with ⟨rfl, _⟩ | ⟨g, cap, cur, rfl, hb, hg, _⟩
  · simp [Value.ownBlock] at ei
  · simp [Value.ownBlock] at ei
    subst ei
    exact ⟨hb, cur, e, (0, 0), hg, hT⟩)
/-- The walk's block: the program, the nodes so far, the edges so far. -/
structure IsW (lo : Nat) (w : World) (Q : Nat) (pv : Value) (n : Nat) (es : List (Nat × Nat)) (ev : Value) : Prop where
  blk : w.heap[Q]? = some (.cells #[pv, .int .i64 (n : Int), ev] 50 (0, 0))
  low : lo ≤ Q
  row : w.ownsRow lo 39 2 ev es.length (edV es)
variable {lo : Nat} {w w' : World} {Q : Nat} {pv : Value} {n : Nat} {es : List (Nat × Nat)} {ev : Value}
theorem IsW.more (h : IsW lo w Q pv n es ev) (hk : Keeps None w w') : IsW lo w' Q pv n es ev := ⟨blk_kept h.blk hk (fun f => f), h.low, hk.own h.row (fun _ _ f => f)⟩
theorem IsW.past {X : Nat} (h : IsW lo w Q pv n es ev) (hk : Keeps (· = X) w w') {cs : Array Value} {U : TypeId} {fr : Nat × Nat} (hX : w.heap[X]? = some (.cells cs U fr)) (hU : ¬ dwT U) : IsW lo w' Q pv n es ev := by
  refine ⟨blk_kept h.blk hk (fun e => ?_), h.low, hk.own h.row (fun q eq hq => ?_)⟩
  · subst e
    have hb := h.blk
    rw [hX] at hb
    injection hb with hb
    injection hb with _ t
    exact hU (.inl t)
  · subst hq
    exact own_not h.row hX (fun t => hU (.inr t)) eq
theorem row_Q {lo Q : Nat} {w w' : World} {e : TypeId} {z n : Nat} {v : Value} {Y : List Value} (ho : w.ownsRow lo e z v n Y) (he : 50 ≠ e) {cs : Array Value} (hQ : w.heap[Q]? = some (.cells cs 50 (0, 0))) (hk : Keeps (· = Q) w w') : w'.ownsRow lo e z v n Y :=
  hk.own ho (fun q eq hq => own_not ho (hq ▸ hQ) he eq)
/-- One more node. -/
theorem IsW.noded (h : IsW lo w Q pv n es ev) : IsW lo (w.setCell ⟨Q, 1, none⟩ (.int .i64 ((n : Int) + 1))) Q pv (n + 1) es ev ∧ Keeps (TyD lo w) w (w.setCell ⟨Q, 1, none⟩ (.int .i64 ((n : Int) + 1))) := by
  have kQ : Keeps (· = Q) w (w.setCell ⟨Q, 1, none⟩ (.int .i64 ((n : Int) + 1))) := Keeps.setCell (S := (· = Q)) w (a := ⟨Q, 1, none⟩) rfl _
  exact ⟨⟨by rw [blk_set h.blk]; rfl, h.low, row_Q h.row (by decide) h.blk kQ⟩, TyD.one kQ h.low h.blk (.inl rfl)⟩
/-- One more edge. -/
theorem IsW.edge (h : IsW lo w Q pv n es ev) (hlo : lo ≤ w.heap.size) (hle : es.length ≤ 200000) (a b : Nat) :
    ∃ ge ce V, (Builtin.append_ #[27, 27] 27 #[ev, .slice (some ⟨w.heap.size, 0, none⟩) 1 1]).run Tryz.prog (w.alloc (.cells #[.int .i64 (a : Int), .int .i64 (b : Int)] 39)) = .ok (.slice (some ⟨ge, 0, none⟩) (es.length + 1) ce) V ∧ V.cell? ⟨Q, 2, none⟩ = some ev ∧ V.frozen? ⟨Q, 2, none⟩ = false ∧
      IsW lo (V.setCell ⟨Q, 2, none⟩ (.slice (some ⟨ge, 0, none⟩) (es.length + 1) ce)) Q pv n (es ++ [(a, b)]) (.slice (some ⟨ge, 0, none⟩) (es.length + 1) ce) ∧ Keeps (TyD lo w) w (V.setCell ⟨Q, 2, none⟩ (.slice (some ⟨ge, 0, none⟩) (es.length + 1) ce)) := by
  have hal := Keeps.alloc None w (.cells #[.int .i64 (a : Int), .int .i64 (b : Int)] 39)
  have h1 := h.more hal
  obtain ⟨ge, ce, V, hr, hoe, hke, hme⟩ := row_app (w.alloc (.cells #[.int .i64 (a : Int), .int .i64 (b : Int)] 39)) lo 27 27 39 2 16 _ Tryz.underlying27 Tryz.twEdge rfl (by decide) ev _ _ h1.row w.heap.size _ (heap_alloc_new w _) rfl (fun u hu => by simp at hu; rcases hu with rfl | rfl <;> rfl) (by have := hal.size; omega) (by omega) (by unfold maxLen; omega)
  have hoe' : V.ownsRow lo 39 2 (.slice (some ⟨ge, 0, none⟩) (es.length + 1) ce) (es.length + 1) (edV (es ++ [(a, b)])) := by
    rw [show edV (es ++ [(a, b)]) = edV es ++ [.int .i64 (a : Int), .int .i64 (b : Int)] by simp [edV, edC]]
    exact hoe
  have bQ := blk_kept h1.blk hke (fun e => own_not h1.row h1.blk (by decide) e)
  have kQ : Keeps (· = Q) V (V.setCell ⟨Q, 2, none⟩ (.slice (some ⟨ge, 0, none⟩) (es.length + 1) ce)) := Keeps.setCell (S := (· = Q)) V (a := ⟨Q, 2, none⟩) rfl _
  refine ⟨ge, ce, V, hr, (blk_cell bQ 2).trans rfl, blk_free bQ 2, ⟨by rw [blk_set bQ]; rfl, h.low, ?_⟩, TyD.trans (TyD.trans (TyD.new hal) (TyD.row h1.row (.inr rfl) hke)) (TyD.one kQ h.low bQ (.inl rfl))⟩
  have := row_Q hoe' (by decide) bQ kQ
  simpa using this
/-- A row of another type is as it was. -/
theorem TyD.keeps {lo2 : Nat} {e : TypeId} {z k : Nat} {v : Value} {Y : List Value} (ho : w.ownsRow lo2 e z v k Y) (he : ¬ dwT e) (hk : Keeps (TyD lo w) w w') : w'.ownsRow lo2 e z v k Y :=
  hk.own ho (fun q eq hq => by
    obtain ⟨_, cs, T, fr, hb, hT⟩ := hq
    exact own_not ho hb (fun t => he (t ▸ hT)) eq)
theorem dw_int : ¬ dwT 3 := by unfold dwT; decide
theorem dw_i64 : ¬ dwT 2 := by unfold dwT; decide
/-- The node ahead, as the document writes it. -/
def frI : Option Nat → Int
  | none => -1
  | some f => f
theorem join_lt {f e : Nat} {r : List Nat} (h : f < e) : joinL (some f) (e :: r) = f :: e :: r := by simp [joinL, h]
theorem join_ge {f e : Nat} {r : List Nat} (h : ¬ f < e) : joinL (some f) (e :: r) = e :: joinL (some f) r := by simp [joinL, h]
theorem join_len (fr : Option Nat) (en : List Nat) : (joinL fr en).length ≤ en.length + 1 := by
  cases fr with
  | none => rw [joinL_none]; omega
  | some f => have := (joinL_perm f en).length_eq; simp at this; omega
theorem own_some7 {w : World} {lo : Nat} {e : TypeId} {z n : Nat} {v : Value} {X : List Value} (h : w.ownsRow lo e z v n X) (hn : 0 < n) : ∃ g c, v = .slice (some ⟨g, 0, none⟩) n c := by
  rcases h.2 with ⟨_, h0⟩ | ⟨g, cap, cur, he, _⟩
  · omega
  · exact ⟨g, cap, he⟩
theorem own_cell7 {w : World} {lo : Nat} {e : TypeId} {n c g : Nat} {X : List Value} (h : w.ownsRow lo e 1 (.slice (some ⟨g, 0, none⟩) n c) n X) {k : Nat} {v : Value} (hv : X[k]? = some v) : w.cell? ⟨g, k, none⟩ = some v ∧ (∀ j, w.frozen? ⟨g, j, none⟩ = false) ∧ lo ≤ g ∧ ∃ cur, w.heap[g]? = some (.cells cur e (0, 0)) := by
  rcases h.2 with ⟨e1, _⟩ | ⟨g', cap, cur, he, hb0, hg, hnc, hcm, hcs, htk⟩
  · cases e1
  · injection he with e1 e2 e3
    injection e1 with e1
    injection e1 with e1
    subst e1
    refine ⟨?_, fun j => blk_free hg j, hb0, cur, hg⟩
    rw [blk_cell hg, ← Array.getElem?_toList]
    rw [← htk, List.getElem?_take] at hv
    split at hv
    · exact hv
    · cases hv
end Go.Proofs.YtbdpdojeaahpjaaGreatDoor
