import Derived.Test.YtiibflbfnoddmaaDoorPkAL
import Derived.Test.YtiibflbfnoddmaaDoorPkAM
/-! What Reduce's program is made of. -/
namespace Go.Proofs.YtiibflbfnoddmaaDoor
set_option linter.unusedVariables false
set_option maxRecDepth 20000
open Go.RowKit Go.HeapKit Go.PlainOps

/-- 'append(s, l...)' where s is full: the elder block stays as it was. -/
theorem code_full (base g n : Nat) (l1 : List Ins) (b2 m c : Nat) (l2 : List Ins) (ty : TypeId) (w : World) (hn : n = l1.length) (h : OwnC w base (.slice (some ⟨g, 0, none⟩) n n) l1) (h2 : SeenI w (some ⟨b2, 0, none⟩) m l2) (hm : 0 < m) (hb : base ≤ w.heap.size) (hl : l1.length + l2.length ≤ 1000) :
    ∃ g' cap' w', (Builtin.append_ #[39, 39] ty #[.slice (some ⟨g, 0, none⟩) n n, .slice (some ⟨b2, 0, none⟩) m c]).run Tryd.prog w = .ok (.slice (some ⟨g', 0, none⟩) (n + m) cap') w' ∧ OwnC w' base (.slice (some ⟨g', 0, none⟩) (n + m) cap') (l1 ++ l2) ∧ Keeps None w w' := by
  obtain ⟨g', cap', w', hr, ho, hk, hg⟩ := code_app base g n n l1 (some ⟨b2, 0, none⟩) m c l2 ty w hn h h2 hb (by omega)
  obtain ⟨i0, hi, hz0, hz1, hz2⟩ := info_parts Tryd.plIns
  have hml := h2.len
  have hr2 := run_append_grow (P := Tryd.prog) w 39 ty 43 i0 _ Tryd.underlying39 hi hz0 ⟨g, 0, none⟩ n n (codeC l1) (by rw [hz1, codeC_length, hn]) (h.cells (g := g) rfl)
    ⟨b2, 0, none⟩ m c (codeC l2) (by rw [hz1, codeC_length, hml]) (fun j u hu => by
      obtain ⟨k, i, o, h1, rfl, h3⟩ := codeC_cell hu
      obtain ⟨b, off, e, _, hc⟩ := h2.ex hm
      injection e with e
      injection e with e1 e2
      subst e1 e2
      have hI := hc k i h1
      rw [show (⟨b2, 0, none⟩ : Addr).add (k * 5 + o) = ⟨b2, 0 + k * 5 + o, none⟩ by unfold Addr.add; split <;> simp_all]
      have ho : o < 5 := (List.getElem?_eq_some_iff.1 h3).1
      match o, ho, h3 with
      | 0, _, h3 => simp [insCells] at h3; subst h3; exact hI.kind
      | 1, _, h3 => simp [insCells] at h3; subst h3; exact hI.a
      | 2, _, h3 => simp [insCells] at h3; subst h3; exact hI.b
      | 3, _, h3 => simp [insCells] at h3; subst h3; exact hI.c
      | 4, _, h3 => simp [insCells] at h3; subst h3; exact hI.k) (by omega) (by omega) (growslice_fits (by omega) (by rw [hz2]; omega))
  rw [hr] at hr2
  injection hr2 with e1 e2
  exact ⟨g', cap', w', hr, ho, by rw [e2]; exact (Keeps.drew None w).andAlloc _⟩
set_option maxHeartbeats 1600000 in
theorem combine_any (g n base : Nat) (l : List Ins) (p : Nat) (cb : Int) (w : World) (hp : w.cell? ⟨p, 0, none⟩ = some (.int .i64 cb)) (hn : n = l.length) (ho : OwnC w base (.slice (some ⟨g, 0, none⟩) n n) l) (hl : l.length ≤ 100) (hb : base ≤ w.heap.size) :
    Calls Tryd.prog 42 #[.slice (some ⟨g, 0, none⟩) n n, .pointer (some ⟨p, 0, none⟩)] w fun e w' => ∃ ca cc, e = .returned (.slice ca (mgC cb l).length cc) ∧ OwnC w' base (.slice ca (mgC cb l).length cc) (mgC cb l) ∧ Keeps None w w' := by
  have j0 : Keeps None w w := Keeps.refl _ _
  have HH : Hid (n = l.length ∧ l.length ≤ 100 ∧ base ≤ w.heap.size) := ⟨hn, hl, hb⟩
  clear hn hl hb
  go_enter Tryd.func42, Tryd.ntmps42
  go_wp2_with fail
  refine (asm_spawn _ _ _ _).mono ?_
  rintro _ w1 ⟨rfl, k1⟩
  have j1 : Keeps None w w1 := j0.trans k1 (fun _ f _ => f)
  clear k1
  go_wp2_with fail
  refine (asm_sync _).mono ?_
  rintro _ w2 ⟨rfl, k2⟩
  have j2 : Keeps None w w2 := j1.trans k2 (fun _ f _ => f)
  clear k2
  go_wp2_with fail
  refine (asm_load _ _ _).mono ?_
  rintro _ w3 ⟨rfl, k3⟩
  have j3 : Keeps None w w3 := j2.trans k3 (fun _ f _ => f)
  clear k3
  have al := own_lit w3 [⟨5, 0, cb, 6, 0⟩, ⟨6, 0, 0, 0, 0⟩, ⟨7, 6, 0, 0, 0⟩] _ 3 rfl rfl (by simp)
  obtain ⟨ca, cc, e, hs⟩ := al.shape
  injection e with e1 e2 e3
  subst e1
  have j4 := j3.andAlloc (.cells (codeC [⟨5, 0, cb, 6, 0⟩, ⟨6, 0, 0, 0, 0⟩, ⟨7, 6, 0, 0, 0⟩]).toArray 43)
  obtain ⟨g', cap', w4, hr, ho4, k4⟩ := code_full base g n l w3.heap.size 3 3 [⟨5, 0, cb, 6, 0⟩, ⟨6, 0, 0, 0, 0⟩, ⟨7, 6, 0, 0, 0⟩] 39 _ HH.out.1 (ho.more j4) hs (by omega) (by have := j4.size; have := HH.out.2.2; omega) (by have := HH.out.2.1; simp; omega)
  have HF : Hid (OwnC w4 base (.slice (some ⟨g', 0, none⟩) (n + 3) cap') (mgC cb l) ∧ Keeps None w w4 ∧ (mgC cb l).length = n + 3) := ⟨ho4, j4.trans k4 (fun _ f _ => f), by unfold mgC; rw [HH.out.1]; simp⟩
  change (Builtin.append_ _ _ _).run _ (w3.alloc (.cells #[.int .i64 5, .int .i64 0, .int .i64 cb, .int .i64 6, .int .i64 0, .int .i64 6, .int .i64 0, .int .i64 0, .int .i64 0, .int .i64 0, .int .i64 7, .int .i64 6, .int .i64 0, .int .i64 0, .int .i64 0] 43)) = _ at hr
  clear ho4 k4 al hs j4 ho
  go_wp2_with (at_builtin; refine wpList_append_run rfl (.tmp 4) (.tmp 9) 39 39 rfl rfl rfl hr ?_)
  go_ret
  refine ⟨some ⟨g', 0, none⟩, cap', ?_, ?_, HF.out.2.1⟩
  · rw [HF.out.2.2]; rfl
  · rw [HF.out.2.2]; exact HF.out.1
set_option maxHeartbeats 1600000 in
theorem leafR_any (bd u cb : Int) (p : Nat) (w : World) (hp : w.cell? ⟨p, 0, none⟩ = some (.int .i64 cb)) : Calls Tryd.prog 54 #[.int .i64 bd, .int .i64 u, .func (Fn.func 42) #[] #[.pointer (some ⟨p, 0, none⟩)]] w fun e w' => ∃ ca cc, e = .returned (.slice ca (lfC bd u (mgC cb [⟨7, 7, 0, 0, 0⟩])).length cc) ∧ OwnC w' w.heap.size (.slice ca (lfC bd u (mgC cb [⟨7, 7, 0, 0, 0⟩])).length cc) (lfC bd u (mgC cb [⟨7, 7, 0, 0, 0⟩])) ∧ Keeps None w w' := by
  have j0 : Keeps None w w := Keeps.refl _ _
  go_enter Tryd.func54, Tryd.ntmps54
  go_wp2_with fail
  refine (asm_const _ _ _).mono ?_
  rintro _ w1 ⟨rfl, k1⟩
  have j1 : Keeps None w w1 := j0.trans k1 (fun _ f _ => f)
  clear k1
  go_wp2_with fail
  refine (asm_const _ _ _).mono ?_
  rintro _ w2 ⟨rfl, k2⟩
  have j2 : Keeps None w w2 := j1.trans k2 (fun _ f _ => f)
  clear k2
  go_wp2_with fail
  refine (asm_spawn _ _ _ _).mono ?_
  rintro _ w3 ⟨rfl, k3⟩
  have a1 := (own_lit w2 [⟨0, 6, 0, 0, u⟩, ⟨0, 9, 0, 0, 1⟩] _ 2 rfl rfl (by simp)).more k3
  have j3 : Keeps None w w3 := (j2.andAlloc _).trans k3 (fun _ f _ => f)
  clear k3
  go_wp2_with fail
  refine (asm_sync _).mono ?_
  rintro _ w4 ⟨rfl, k4⟩
  replace a1 := a1.more k4
  have j4 : Keeps None w w4 := j3.trans k4 (fun _ f _ => f)
  clear k4
  go_wp2_with fail
  refine (asm_load _ _ _).mono ?_
  rintro _ w5 ⟨rfl, k5⟩
  replace a1 := (a1.more (Keeps.alloc None _ _)).more k5
  have a2 := (own_lit w4 [⟨5, 0, bd, 0, 0⟩, ⟨6, 0, 0, 0, 0⟩] _ 2 rfl rfl (by simp)).more k5
  have j5 : Keeps None w w5 := (j4.andAlloc _).trans k5 (fun _ f _ => f)
  clear k5
  have j5a := j5.andAlloc (.cells (codeC [⟨7, 7, 0, 0, 0⟩]).toArray 43)
  have hc6 := combine_any w5.heap.size 1 w5.heap.size [⟨7, 7, 0, 0, 0⟩] p cb _ (j5a.cell hp (fun f => f)) rfl (own_lit w5 [⟨7, 7, 0, 0, 0⟩] _ 1 rfl rfl (by simp)) (by simp) (by simp)
  go_wp2_with fail
  refine hc6.mono ?_
  rintro _ w6 ⟨ca0, cc0, rfl, am, k6⟩
  clear hc6 j5a
  replace a1 := (a1.more (Keeps.alloc None _ _)).more k6
  replace a2 := (a2.more (Keeps.alloc None _ _)).more k6
  have a0 := (own_lit w5 [⟨7, 7, 0, 0, 0⟩] _ 1 rfl rfl (by simp)).more k6
  have j6 : Keeps None w w6 := (j5.andAlloc _).trans k6 (fun _ f _ => f)
  clear k6
  go_wp2_with fail
  refine (asm_arith _ _ _ _ _).mono ?_
  rintro _ w7 ⟨rfl, k7⟩
  replace a1 := a1.more k7
  replace a2 := a2.more k7
  replace am := am.more k7
  have j7 : Keeps None w w7 := j6.trans k7 (fun _ f _ => f)
  clear k7
  go_wp2_with fail
  refine (asm_arith _ _ _ _ _).mono ?_
  rintro _ w8 ⟨rfl, k8⟩
  replace a1 := a1.more k8
  replace a2 := a2.more k8
  replace am := am.more k8
  have j8 : Keeps None w w8 := j7.trans k8 (fun _ f _ => f)
  clear k8
  go_wp2_with fail
  refine (asm_branch _ _ _).mono ?_
  rintro _ w9 ⟨rfl, k9⟩
  replace a1 := a1.more k9
  replace a2 := a2.more k9
  replace am := am.more k9
  have j9 : Keeps None w w9 := j8.trans k9 (fun _ f _ => f)
  clear k9
  go_wp2_with fail
  refine (asm_return _ _).mono ?_
  rintro _ w10 ⟨rfl, k10⟩
  replace a1 := a1.more k10
  replace a2 := a2.more k10
  replace am := am.more k10
  have j10 : Keeps None w w10 := j9.trans k10 (fun _ f _ => f)
  clear k10
  have al := own_lit w10 [⟨2, 0, 0, 9, 0⟩, ⟨2, 10, 0, 1, 12⟩, ⟨4, 10, 5, 0, 0⟩, ⟨9, 6, 0, 0, 0⟩] _ 4 rfl rfl (by simp)
  go_wp2_with fail
  refine (concat_any _ 4 4 [[⟨0, 6, 0, 0, u⟩, ⟨0, 9, 0, 0, 1⟩], [⟨5, 0, bd, 0, 0⟩, ⟨6, 0, 0, 0, 0⟩], mgC cb [⟨7, 7, 0, 0, 0⟩], [⟨2, 0, 0, 9, 0⟩, ⟨2, 10, 0, 1, 12⟩, ⟨4, 10, 5, 0, 0⟩, ⟨9, 6, 0, 0, 0⟩]] _ (seenS_lit _ [(_, [⟨0, 6, 0, 0, u⟩, ⟨0, 9, 0, 0, 1⟩]), (_, [⟨5, 0, bd, 0, 0⟩, ⟨6, 0, 0, 0, 0⟩]), (_, mgC cb [⟨7, 7, 0, 0, 0⟩]), (_, [⟨2, 0, 0, 9, 0⟩, ⟨2, 10, 0, 1, 12⟩, ⟨4, 10, 5, 0, 0⟩, ⟨9, 6, 0, 0, 0⟩])] _ 4 [[⟨0, 6, 0, 0, u⟩, ⟨0, 9, 0, 0, 1⟩], [⟨5, 0, bd, 0, 0⟩, ⟨6, 0, 0, 0, 0⟩], mgC cb [⟨7, 7, 0, 0, 0⟩], [⟨2, 0, 0, 9, 0⟩, ⟨2, 10, 0, 1, 12⟩, ⟨4, 10, 5, 0, 0⟩, ⟨9, 6, 0, 0, 0⟩]] _ (by simp) rfl rfl rfl ?_) (by omega) (by simp) (by simp [mgC])).mono ?_
  · intro x hx
    simp only [List.mem_cons, List.not_mem_nil, or_false] at hx
    rcases hx with rfl | rfl | rfl | rfl
    · exact ⟨_, a1.more (Keeps.alloc None _ _)⟩
    · exact ⟨_, a2.more (Keeps.alloc None _ _)⟩
    · exact ⟨_, am.more (Keeps.alloc None _ _)⟩
    · exact ⟨_, al⟩
  rintro _ wz ⟨ca, cc, rfl, ho, hk⟩
  have HF : Hid (OwnC wz w.heap.size _ _ ∧ Keeps None w wz) := ⟨ho.low (by have := j10.size; simp; omega), ((j10.andAlloc _).andAlloc _).trans hk (fun _ f _ => f)⟩
  clear ho hk
  go_wp2
  go_ret
  exact ⟨ca, cc, rfl, HF.out.1, HF.out.2⟩
set_option maxHeartbeats 1600000 in
theorem halvesR_any (cb : Int) (p : Nat) (w : World) (hp : w.cell? ⟨p, 0, none⟩ = some (.int .i64 cb)) : Calls Tryd.prog 55 #[.func (Fn.func 42) #[] #[.pointer (some ⟨p, 0, none⟩)]] w fun e w' => ∃ ca cc, e = .returned (.slice ca (hvC (mgC cb [⟨7, 6, 0, 0, 0⟩, ⟨7, 7, 1, 0, 0⟩])).length cc) ∧ OwnC w' w.heap.size (.slice ca (hvC (mgC cb [⟨7, 6, 0, 0, 0⟩, ⟨7, 7, 1, 0, 0⟩])).length cc) (hvC (mgC cb [⟨7, 6, 0, 0, 0⟩, ⟨7, 7, 1, 0, 0⟩])) ∧ Keeps None w w' := by
  have j0 : Keeps None w w := Keeps.refl _ _
  go_enter Tryd.func55, Tryd.ntmps55
  go_wp2_with fail
  refine (asm_const _ _ _).mono ?_
  rintro _ w1 ⟨rfl, k1⟩
  have j1 : Keeps None w w1 := j0.trans k1 (fun _ f _ => f)
  clear k1
  go_wp2_with fail
  refine (asm_arith _ _ _ _ _).mono ?_
  rintro _ w2 ⟨rfl, k2⟩
  have j2 : Keeps None w w2 := j1.trans k2 (fun _ f _ => f)
  clear k2
  go_wp2_with fail
  refine (asm_arith _ _ _ _ _).mono ?_
  rintro _ w3 ⟨rfl, k3⟩
  have j3 : Keeps None w w3 := j2.trans k3 (fun _ f _ => f)
  clear k3
  go_wp2_with fail
  refine (asm_move _ _ _).mono ?_
  rintro _ w4 ⟨rfl, k4⟩
  have a1 := (own_lit w3 [⟨0, 4, 0, 0, 2⟩, ⟨2, 4, 8, 4, 3⟩, ⟨2, 4, 0, 4, 0⟩] _ 3 rfl rfl (by simp)).more k4
  have j4 : Keeps None w w4 := (j3.andAlloc _).trans k4 (fun _ f _ => f)
  clear k4
  go_wp2_with fail
  refine (asm_move _ _ _).mono ?_
  rintro _ w5 ⟨rfl, k5⟩
  replace a1 := a1.more k5
  have j5 : Keeps None w w5 := j4.trans k5 (fun _ f _ => f)
  clear k5
  go_wp2_with fail
  refine (asm_spawn _ _ _ _).mono ?_
  rintro _ w6 ⟨rfl, k6⟩
  replace a1 := a1.more k6
  have j6 : Keeps None w w6 := j5.trans k6 (fun _ f _ => f)
  clear k6
  go_wp2_with fail
  refine (asm_move _ _ _).mono ?_
  rintro _ w7 ⟨rfl, k7⟩
  replace a1 := (a1.more (Keeps.alloc None _ _)).more k7
  have a2 := (own_lit w6 [⟨1, 3, 0, 0, 0⟩, ⟨1, 5, 2, 0, 0⟩, ⟨5, 0, 1, 3, 0⟩] _ 3 rfl rfl (by simp)).more k7
  have j7 : Keeps None w w7 := (j6.andAlloc _).trans k7 (fun _ f _ => f)
  clear k7
  go_wp2_with fail
  refine (asm_spawn _ _ _ _).mono ?_
  rintro _ w8 ⟨rfl, k8⟩
  replace a1 := a1.more k8
  replace a2 := a2.more k8
  have j8 : Keeps None w w8 := j7.trans k8 (fun _ f _ => f)
  clear k8
  go_wp2_with fail
  refine (asm_sync _).mono ?_
  rintro _ w9 ⟨rfl, k9⟩
  replace a1 := a1.more k9
  replace a2 := a2.more k9
  have j9 : Keeps None w w9 := j8.trans k9 (fun _ f _ => f)
  clear k9
  go_wp2_with fail
  refine (asm_load _ _ _).mono ?_
  rintro _ w10 ⟨rfl, k10⟩
  replace a1 := (a1.more (Keeps.alloc None _ _)).more k10
  replace a2 := (a2.more (Keeps.alloc None _ _)).more k10
  have a3 := (own_lit w9 [⟨1, 0, 4, 0, 0⟩, ⟨5, 1, 1, 0, 0⟩, ⟨6, 0, 0, 0, 0⟩] _ 3 rfl rfl (by simp)).more k10
  have j10 : Keeps None w w10 := (j9.andAlloc _).trans k10 (fun _ f _ => f)
  clear k10
  go_wp2_with fail
  refine (asm_load _ _ _).mono ?_
  rintro _ w11 ⟨rfl, k11⟩
  replace a1 := a1.more k11
  replace a2 := a2.more k11
  replace a3 := a3.more k11
  have j11 : Keeps None w w11 := j10.trans k11 (fun _ f _ => f)
  clear k11
  have j11a := j11.andAlloc (.cells (codeC [⟨7, 6, 0, 0, 0⟩, ⟨7, 7, 1, 0, 0⟩]).toArray 43)
  have hc12 := combine_any w11.heap.size 2 w11.heap.size [⟨7, 6, 0, 0, 0⟩, ⟨7, 7, 1, 0, 0⟩] p cb _ (j11a.cell hp (fun f => f)) rfl (own_lit w11 [⟨7, 6, 0, 0, 0⟩, ⟨7, 7, 1, 0, 0⟩] _ 2 rfl rfl (by simp)) (by simp) (by simp)
  go_wp2_with fail
  refine hc12.mono ?_
  rintro _ w12 ⟨ca0, cc0, rfl, am, k12⟩
  clear hc12 j11a
  replace a1 := (a1.more (Keeps.alloc None _ _)).more k12
  replace a2 := (a2.more (Keeps.alloc None _ _)).more k12
  replace a3 := (a3.more (Keeps.alloc None _ _)).more k12
  have a0 := (own_lit w11 [⟨7, 6, 0, 0, 0⟩, ⟨7, 7, 1, 0, 0⟩] _ 2 rfl rfl (by simp)).more k12
  have j12 : Keeps None w w12 := (j11.andAlloc _).trans k12 (fun _ f _ => f)
  clear k12
  go_wp2_with fail
  refine (asm_return _ _).mono ?_
  rintro _ w13 ⟨rfl, k13⟩
  replace a1 := a1.more k13
  replace a2 := a2.more k13
  replace a3 := a3.more k13
  replace am := am.more k13
  have j13 : Keeps None w w13 := j12.trans k13 (fun _ f _ => f)
  clear k13
  have al := own_lit w13 [⟨9, 6, 0, 0, 0⟩] _ 1 rfl rfl (by simp)
  go_wp2_with fail
  refine (concat_any _ 5 5 [[⟨0, 4, 0, 0, 2⟩, ⟨2, 4, 8, 4, 3⟩, ⟨2, 4, 0, 4, 0⟩], [⟨1, 3, 0, 0, 0⟩, ⟨1, 5, 2, 0, 0⟩, ⟨5, 0, 1, 3, 0⟩], [⟨1, 0, 4, 0, 0⟩, ⟨5, 1, 1, 0, 0⟩, ⟨6, 0, 0, 0, 0⟩], mgC cb [⟨7, 6, 0, 0, 0⟩, ⟨7, 7, 1, 0, 0⟩], [⟨9, 6, 0, 0, 0⟩]] _ (seenS_lit _ [(_, [⟨0, 4, 0, 0, 2⟩, ⟨2, 4, 8, 4, 3⟩, ⟨2, 4, 0, 4, 0⟩]), (_, [⟨1, 3, 0, 0, 0⟩, ⟨1, 5, 2, 0, 0⟩, ⟨5, 0, 1, 3, 0⟩]), (_, [⟨1, 0, 4, 0, 0⟩, ⟨5, 1, 1, 0, 0⟩, ⟨6, 0, 0, 0, 0⟩]), (_, mgC cb [⟨7, 6, 0, 0, 0⟩, ⟨7, 7, 1, 0, 0⟩]), (_, [⟨9, 6, 0, 0, 0⟩])] _ 5 [[⟨0, 4, 0, 0, 2⟩, ⟨2, 4, 8, 4, 3⟩, ⟨2, 4, 0, 4, 0⟩], [⟨1, 3, 0, 0, 0⟩, ⟨1, 5, 2, 0, 0⟩, ⟨5, 0, 1, 3, 0⟩], [⟨1, 0, 4, 0, 0⟩, ⟨5, 1, 1, 0, 0⟩, ⟨6, 0, 0, 0, 0⟩], mgC cb [⟨7, 6, 0, 0, 0⟩, ⟨7, 7, 1, 0, 0⟩], [⟨9, 6, 0, 0, 0⟩]] _ (by simp) rfl rfl rfl ?_) (by omega) (by simp) (by simp [mgC])).mono ?_
  · intro x hx
    simp only [List.mem_cons, List.not_mem_nil, or_false] at hx
    rcases hx with rfl | rfl | rfl | rfl | rfl
    · exact ⟨_, a1.more (Keeps.alloc None _ _)⟩
    · exact ⟨_, a2.more (Keeps.alloc None _ _)⟩
    · exact ⟨_, a3.more (Keeps.alloc None _ _)⟩
    · exact ⟨_, am.more (Keeps.alloc None _ _)⟩
    · exact ⟨_, al⟩
  rintro _ wz ⟨ca, cc, rfl, ho, hk⟩
  have HF : Hid (OwnC wz w.heap.size _ _ ∧ Keeps None w wz) := ⟨ho.low (by have := j13.size; simp; omega), ((j13.andAlloc _).andAlloc _).trans hk (fun _ f _ => f)⟩
  clear ho hk
  go_wp2
  go_ret
  exact ⟨ca, cc, rfl, HF.out.1, HF.out.2⟩
end Go.Proofs.YtiibflbfnoddmaaDoor
/-! parlib.made and foldAll: Reduce's program in memory. -/
namespace Go.Proofs.YtiibflbfnoddmaaDoor
set_option linter.unusedVariables false
set_option maxRecDepth 20000
open Go.RowKit Go.HeapKit Go.PlainOps

set_option maxHeartbeats 4000000 in
theorem madeR_any (a : Option Addr) (n c : Nat) (fs : List Fn) (bd u cb : Int) (p : Nat) (w : World) (hp : w.cell? ⟨p, 0, none⟩ = some (.int .i64 cb)) (hS : SeenF w a n fs) (hbd : 0 ≤ bd ∧ bd ≤ 1000) (hfs : ∀ f ∈ fs, f.code.length ≤ 1000 ∧ ∀ i ∈ f.code, i.kind = 5 → 0 ≤ i.b ∧ i.b ≤ 1000) (hn : n ≤ 100) :
    Calls Tryd.prog 34 #[.agg #[.slice a n c], .int .i64 bd, .int .i64 u, .func (Fn.func 42) #[] #[.pointer (some ⟨p, 0, none⟩)]] w fun e w' => ∃ v L', e = .returned (.agg #[v]) ∧ OwnF w' w.heap.size v L' ∧ L'.map (·.1) = entF u :: rnF (lfC (bd + 2) u (mgC cb [⟨7, 7, 0, 0, 0⟩])) (hvC (mgC cb [⟨7, 6, 0, 0, 0⟩, ⟨7, 7, 1, 0, 0⟩])) :: fs.map shF ∧ Keeps None w w' := by
  obtain ⟨B, hB⟩ : ∃ B, B = w.heap.size := ⟨_, rfl⟩
  have b1 := heap_alloc_new w (.cells #[.slice a n c] 24)
  have q1 := Keeps.alloc None w (.cells #[.slice a n c] 24)
  obtain ⟨W1, hW1⟩ : ∃ W1, W1 = w.alloc (.cells #[.slice a n c] 24) := ⟨_, rfl⟩
  have s1 : W1.heap.size = B + 1 := by rw [hW1, hB]; simp
  rw [← hW1] at b1 q1
  rw [← hB] at b1
  have b2 := heap_alloc_new W1 (.cells #[.slice none 0 0] 24)
  have q2 := Keeps.alloc None W1 (.cells #[.slice none 0 0] 24)
  obtain ⟨W2, hW2⟩ : ∃ W2, W2 = W1.alloc (.cells #[.slice none 0 0] 24) := ⟨_, rfl⟩
  have s2 : W2.heap.size = B + 2 := by rw [hW2]; simp [s1]
  rw [← hW2] at b2 q2
  rw [s1] at b2
  have b1a := blk_kept b1 q2 (fun f => f)
  have k2 : Keeps None w W2 := q1.trans q2 (fun _ f _ => f)
  have hbh := behind_any W2
  rw [s2] at hbh
  unfold renV at hbh
  have HX : Hid (Keeps None w W2 ∧ W2.heap[B]? = some (.cells #[.slice a n c] 24 (0, 0)) ∧ W2.heap[B + 1]? = some (.cells #[.slice none 0 0] 24 (0, 0)) ∧ W2.heap.size = B + 2 ∧ B = w.heap.size ∧ SeenF w a n fs ∧ n ≤ 100) := ⟨k2, b1a, b2, s2, hB, hS, hn⟩
  have HC : Hid (∀ f ∈ fs, f.code.length ≤ 1000 ∧ ∀ i ∈ f.code, i.kind = 5 → 0 ≤ i.b ∧ i.b ≤ 1000) := hfs
  have HBD : Hid (0 ≤ bd ∧ bd ≤ 1000) := hbd
  have HP : Hid (w.cell? ⟨p, 0, none⟩ = some (.int .i64 cb)) := hp
  clear hp
  clear b1 b2 b1a q1 q2 k2 s1 s2 hS hfs hn hbd
  go_enter Tryd.func34, Tryd.ntmps34
  go_upto_region 1 with fail
  rw [← hW1, ← hW2, ← hB]
  clear hW1 hW2 hB
  go_wp2_with fail
  refine hbh.mono ?_
  rintro _ W3 ⟨rfl, hp3, k3⟩
  clear hbh
  have hcl := behind1_any bd (B + 2) W3 hp3 (by have := HBD.out; omega) (by have := HBD.out; omega)
  have HY : Hid (Keeps None w W3 ∧ W3.heap[B + 1]? = some (.cells #[.slice none 0 0] 24 (0, 0)) ∧ W3.heap[B]? = some (.cells #[.slice a n c] 24 (0, 0))) := ⟨HX.out.1.trans k3 (fun _ f _ => f), blk_kept HX.out.2.2.1 k3 (fun f => f), blk_kept HX.out.2.1 k3 (fun f => f)⟩
  clear k3 hp3
  go_wp2_with fail
  refine hcl.mono ?_
  rintro _ w4 ⟨rfl, hw4⟩
  have hw5 := hw4.symm
  subst hw5
  clear hcl
  go_upto_region 2 with fail
  have r0 : W3.drew.cell? ⟨B, 0, none⟩ = some (.slice a n c) := (Keeps.drew None W3).cell ((blk_cell HY.out.2.2 0).trans rfl) (fun f => f)
  have r00 : W3.cell? ⟨B, 0, none⟩ = some (.slice a n c) := (blk_cell HY.out.2.2 0).trans rfl
  refine wp_region_held_drew (S := (fun w' => w'.cell? ⟨B, 0, none⟩ = some (.slice a n c))) (by kernel_rfl) ?_ (fun hHeld => ?_)
  · (try dsimp only); first | exact r12 | exact r11 | exact r10 | exact r9 | exact r8 | exact r6 | exact r2 | exact r0
  refine wpAnyH_take (i := 0) (oi := { dst := some 12, op := Op.load 24 (Operand.tmp 4), type := 24, pos := "made.go:72", after := #[], guard := none }) (v := ?_) rfl (by kernel_rfl) (by kernel_rfl) (by kernel_rfl) (fun _ _ _ h => h) (Or.inl ⟨by rfl, ?_⟩) (by assumption) ?_
  rotate_left
  · (intro wz hSw; (try dsimp only at hSw); go_simp; try with_reducible rfl)
  simp only [Act.put, List.setIfInBounds_toArray, List.set_cons_zero, List.set_cons_succ]
  refine wpAnyH_take (i := 1) (oi := { dst := some 13, op := Op.move (Operand.tmp 2), type := 2, pos := "made.go:72", after := #[], guard := none }) (v := ?_) rfl (by kernel_rfl) (by kernel_rfl) (by kernel_rfl) (fun _ _ _ h => h) (Or.inl ⟨by rfl, ?_⟩) (by assumption) ?_
  rotate_left
  · (intro wz hSw; (try dsimp only at hSw); go_simp; try with_reducible rfl)
  simp only [Act.put, List.setIfInBounds_toArray, List.set_cons_zero, List.set_cons_succ]
  refine wpAnyH_take (i := 3) (oi := { dst := some 15, op := Op.move (Operand.tmp 1), type := 3, pos := "made.go:72", after := #[], guard := none }) (v := ?_) rfl (by kernel_rfl) (by kernel_rfl) (by kernel_rfl) (fun _ _ _ h => h) (Or.inl ⟨by rfl, ?_⟩) (by assumption) ?_
  rotate_left
  · (intro wz hSw; (try dsimp only at hSw); go_simp; try with_reducible rfl)
  simp only [Act.put, List.setIfInBounds_toArray, List.set_cons_zero, List.set_cons_succ]
  refine wpAnyH_take (i := 4) (oi := { dst := some 16, op := Op.move (Operand.tmp 2), type := 2, pos := "made.go:72", after := #[], guard := none }) (v := ?_) rfl (by kernel_rfl) (by kernel_rfl) (by kernel_rfl) (fun _ _ _ h => h) (Or.inl ⟨by rfl, ?_⟩) (by assumption) ?_
  rotate_left
  · (intro wz hSw; (try dsimp only at hSw); go_simp; try with_reducible rfl)
  simp only [Act.put, List.setIfInBounds_toArray, List.set_cons_zero, List.set_cons_succ]
  refine wpAnyH_take (i := 5) (oi := { dst := some 17, op := Op.move (Operand.tmp 3), type := 75, pos := "made.go:72", after := #[], guard := none }) (v := ?_) rfl (by kernel_rfl) (by kernel_rfl) (by kernel_rfl) (fun _ _ _ h => h) (Or.inl ⟨by rfl, ?_⟩) (by assumption) ?_
  rotate_left
  · (intro wz hSw; (try dsimp only at hSw); go_simp; try with_reducible rfl)
  simp only [Act.put, List.setIfInBounds_toArray, List.set_cons_zero, List.set_cons_succ]
  refine wpAnyH_take (i := 7) (oi := { dst := some 19, op := Op.move (Operand.tmp 3), type := 75, pos := "made.go:72", after := #[], guard := none }) (v := ?_) rfl (by kernel_rfl) (by kernel_rfl) (by kernel_rfl) (fun _ _ _ h => h) (Or.inl ⟨by rfl, ?_⟩) (by assumption) ?_
  rotate_left
  · (intro wz hSw; (try dsimp only at hSw); go_simp; try with_reducible rfl)
  simp only [Act.put, List.setIfInBounds_toArray, List.set_cons_zero, List.set_cons_succ]
  refine wpAnyH_ready (rs := [2]) (by kernel_rfl) (by simp) ?_
  refine AllReadyH.cons (o := { dst := some 14, op := Op.call { callee := Callee.value (Operand.func 52), args := #[Operand.tmp 13], argTypes := #[2] }, type := 41, pos := "made.go:72", after := #[{ on := 1, ground := Ground.data }], guard := none }) rfl (fun K hK => ?_) ?_
  · go_simp
    refine (entry_any u _).mono ?_
    rintro _ w2 ⟨v2, rfl, o2, k2⟩
    obtain ⟨ca2, cc2, rfl, -⟩ := o2.shape
    have r2 := k2.cell r0 (fun f => f)
    refine hK.out _ _ ?_ (fun hHeld2 => ?_)
    · (try dsimp only); first | exact r12 | exact r11 | exact r10 | exact r9 | exact r8 | exact r6 | exact r2 | exact r0
    clear hK K
    try simp only [Act.put, List.setIfInBounds_toArray, List.set_cons_zero, List.set_cons_succ]
    refine wpAnyH_ready (rs := [6]) (by kernel_rfl) (by simp) ?_
    refine AllReadyH.cons (o := { dst := some 18, op := Op.call { callee := Callee.value (Operand.func 54), args := #[Operand.tmp 15, Operand.tmp 16, Operand.tmp 17], argTypes := #[3, 2, 75] }, type := 39, pos := "made.go:72", after := #[{ on := 3, ground := Ground.data }, { on := 4, ground := Ground.data }, { on := 5, ground := Ground.data }, { on := 2, ground := Ground.chain }], guard := none }) rfl (fun K hK => ?_) ?_
    · go_simp
      refine (leafR_any (bd + 2) u cb p _ ((HY.out.1.andDrew.trans k2 (fun _ f _ => f)).cell HP.out (fun f => f))).mono ?_
      rintro _ w6 ⟨ca6, cc6, rfl, o6, k6⟩
      have r6 := k6.cell r2 (fun f => f)
      refine hK.out _ _ ?_ (fun hHeld2 => ?_)
      · (try dsimp only); first | exact r12 | exact r11 | exact r10 | exact r9 | exact r8 | exact r6 | exact r2 | exact r0
      clear hK K
      try simp only [Act.put, List.setIfInBounds_toArray, List.set_cons_zero, List.set_cons_succ]
      refine wpAnyH_ready (rs := [8]) (by kernel_rfl) (by simp) ?_
      refine AllReadyH.cons (o := { dst := some 20, op := Op.call { callee := Callee.value (Operand.func 55), args := #[Operand.tmp 19], argTypes := #[75] }, type := 39, pos := "made.go:72", after := #[{ on := 7, ground := Ground.data }, { on := 6, ground := Ground.chain }], guard := none }) rfl (fun K hK => ?_) ?_
      · go_simp
        refine (halvesR_any cb p _ (((HY.out.1.andDrew.trans k2 (fun _ f _ => f)).trans k6 (fun _ f _ => f)).cell HP.out (fun f => f))).mono ?_
        rintro _ w8 ⟨ca8, cc8, rfl, o8, k8⟩
        have r8 := k8.cell r6 (fun f => f)
        refine hK.out _ _ ?_ (fun hHeld2 => ?_)
        · (try dsimp only); first | exact r12 | exact r11 | exact r10 | exact r9 | exact r8 | exact r6 | exact r2 | exact r0
        clear hK K
        try simp only [Act.put, List.setIfInBounds_toArray, List.set_cons_zero, List.set_cons_succ]
        refine wpAnyH_ready (rs := [9]) (by kernel_rfl) (by simp) ?_
        refine AllReadyH.cons (o := { dst := some 21, op := Op.call { callee := Callee.value (Operand.func 53), args := #[Operand.tmp 18, Operand.tmp 20], argTypes := #[39, 39] }, type := 41, pos := "made.go:72", after := #[{ on := 6, ground := Ground.data }, { on := 8, ground := Ground.data }, { on := 8, ground := Ground.chain }], guard := none }) rfl (fun K hK => ?_) ?_
        · go_simp
          refine (ranged_any ca6 ca8 _ cc6 _ cc8 _ _ (lfC (bd + 2) u (mgC cb [⟨7, 7, 0, 0, 0⟩])) (hvC (mgC cb [⟨7, 6, 0, 0, 0⟩, ⟨7, 7, 1, 0, 0⟩])) _ rfl rfl (o6.more k8) o8 (by simp [lfC, mgC]) (by simp [hvC, mgC])).mono ?_
          rintro _ w9 ⟨v9, rfl, o9, k9⟩
          obtain ⟨ca9, cc9, rfl, -⟩ := o9.shape
          have r9 := k9.cell r8 (fun f => f)
          refine hK.out _ _ ?_ (fun hHeld2 => ?_)
          · (try dsimp only); first | exact r12 | exact r11 | exact r10 | exact r9 | exact r8 | exact r6 | exact r2 | exact r0
          clear hK K
          try simp only [Act.put, List.setIfInBounds_toArray, List.set_cons_zero, List.set_cons_succ]
          refine wpAnyH_ready (rs := [10]) (by kernel_rfl) (by simp) ?_
          refine AllReadyH.cons (o := { dst := some 22, op := Op.buildSlice 22 2 #[(0, Operand.tmp 14), (1, Operand.tmp 21)], type := 22, pos := "made.go:72", after := #[{ on := 2, ground := Ground.data }, { on := 9, ground := Ground.data }], guard := none }) rfl (fun K hK => ?_) ?_
          · go_simp
            have r10 := (Keeps.alloc None w9 (.cells #[.int .i64 2, .int .i64 7, .int .i64 1, .slice ca2 (entC u).length cc2, .int .i64 3, .int .i64 11, .int .i64 2, .slice ca9 (rnC (lfC (bd + 2) u (mgC cb [⟨7, 7, 0, 0, 0⟩])) (hvC (mgC cb [⟨7, 6, 0, 0, 0⟩, ⟨7, 7, 1, 0, 0⟩]))).length cc9] 41)).cell r9 (fun f => f)
            refine hK.out _ _ ?_ (fun hHeld2 => ?_)
            · (try dsimp only); first | exact r12 | exact r11 | exact r10 | exact r9 | exact r8 | exact r6 | exact r2 | exact r0
            clear hK K
            try simp only [Act.put, List.setIfInBounds_toArray, List.set_cons_zero, List.set_cons_succ]
            refine wpAnyH_ready (rs := [11]) (by kernel_rfl) (by simp) ?_
            refine AllReadyH.cons (o := { dst := some 23, op := Op.call { callee := Callee.value (Operand.func 51), args := #[Operand.tmp 12, Operand.tmp 22], argTypes := #[24, 22] }, type := 24, pos := "made.go:72", after := #[{ on := 0, ground := Ground.data }, { on := 10, ground := Ground.data }, { on := 9, ground := Ground.chain }], guard := none }) rfl (fun K hK => ?_) ?_
            · go_simp
              have j9 : Keeps None w w9 := (((HY.out.1.andDrew.trans k2 (fun _ f _ => f)).trans k6 (fun _ f _ => f)).trans k8 (fun _ f _ => f)).trans k9 (fun _ f _ => f)
              have t3 : W3.heap.size ≤ w2.heap.size := k2.size
              have t6 := k6.size
              have t8 := k8.size
              have t9 := k9.size
              have tw := HY.out.1.size
              have tB := blk_lt HY.out.2.1
              have oL := own_two w9 w.heap.size w9.heap.size (entF u) (rnF (lfC (bd + 2) u (mgC cb [⟨7, 7, 0, 0, 0⟩])) (hvC (mgC cb [⟨7, 6, 0, 0, 0⟩, ⟨7, 7, 1, 0, 0⟩]))) (.slice ca2 (entC u).length cc2) (.slice ca9 (rnC (lfC (bd + 2) u (mgC cb [⟨7, 7, 0, 0, 0⟩])) (hvC (mgC cb [⟨7, 6, 0, 0, 0⟩, ⟨7, 7, 1, 0, 0⟩]))).length cc9) rfl j9.size ((((o2.more k6).more k8).more k9).low (b2 := w.heap.size) (by show w.heap.size ≤ W3.heap.size; exact tw)) (o9.low (by omega)) (fun q e e2 => by have h1 := (o2.base e).2; have h2 := (o9.base e2).1; omega)
              refine (ahead_any a n c fs w9.heap.size 2 w.heap.size _ w _ HX.out.2.2.2.2.2.1 (j9.andAlloc _) j9.size oL rfl (by simp; omega) HC.out HX.out.2.2.2.2.2.2).mono ?_
              rintro _ w11 ⟨v11, L', rfl, oL', hm', k11⟩
              obtain ⟨a11, c11, rfl, -⟩ := oL'.seen
              have r11 := k11.cell r10 (by intro e; have e' : B = w9.heap.size := e; omega)
              have k3b : Keeps None W3 w9 := (((Keeps.drew None W3).trans k2 (fun _ f _ => f)).trans k6 (fun _ f _ => f) |>.trans k8 (fun _ f _ => f)).trans k9 (fun _ f _ => f)
              have bR := blk_kept (blk_kept (blk_kept HY.out.2.1 k3b (fun f => f)) (Keeps.alloc None _ (.cells #[.int .i64 2, .int .i64 7, .int .i64 1, .slice ca2 (entC u).length cc2, .int .i64 3, .int .i64 11, .int .i64 2, .slice ca9 (rnC (lfC (bd + 2) u (mgC cb [⟨7, 7, 0, 0, 0⟩])) (hvC (mgC cb [⟨7, 6, 0, 0, 0⟩, ⟨7, 7, 1, 0, 0⟩]))).length cc9] 41)) (fun f => f)) k11 (by omega)
              have z0 : w11.cell? ⟨B + 1, 0, none⟩ = some (.slice none 0 0) := (blk_cell bR 0).trans rfl
              have z1 := blk_free bR 0
              have r12 := (Keeps.setCell (S := (· = B + 1)) w11 (a := ⟨B + 1, 0, none⟩) rfl (.slice a11 L'.length c11)).cell r11 (by intro e; have e' : B = B + 1 := e; omega)
              have HF : Hid (OwnF w11 w.heap.size (.slice a11 L'.length c11) L' ∧ L'.map (·.1) = entF u :: rnF (lfC (bd + 2) u (mgC cb [⟨7, 7, 0, 0, 0⟩])) (hvC (mgC cb [⟨7, 6, 0, 0, 0⟩, ⟨7, 7, 1, 0, 0⟩])) :: fs.map shF ∧ Keeps None w w11 ∧ w11.heap[B + 1]? = some (.cells #[.slice none 0 0] 24 (0, 0))) := ⟨oL', hm', (j9.andAlloc _).trans k11 (fun i e hi => by have e' : i = w9.heap.size := e; omega), bR⟩
              clear oL' hm' k11 bR oL j9 k3b o2 o6 o8 o9
              refine hK.out _ _ ?_ (fun hHeld2 => ?_)
              · (try dsimp only); first | exact r12 | exact r11 | exact r10 | exact r9 | exact r8 | exact r6 | exact r2 | exact r0
              clear hK K
              try simp only [Act.put, List.setIfInBounds_toArray, List.set_cons_zero, List.set_cons_succ]
              refine wpAnyH_ready (rs := [12]) (by kernel_rfl) (by simp) ?_
              refine AllReadyH.cons (o := { dst := none, op := Op.store 24 (Operand.tmp 8) (Operand.tmp 23), type := 0, pos := "made.go:72", after := #[{ on := 11, ground := Ground.data }, { on := 11, ground := Ground.chain }, { on := 0, ground := Ground.phase }, { on := 1, ground := Ground.phase }, { on := 2, ground := Ground.phase }, { on := 3, ground := Ground.phase }, { on := 4, ground := Ground.phase }, { on := 5, ground := Ground.phase }, { on := 6, ground := Ground.phase }, { on := 7, ground := Ground.phase }, { on := 8, ground := Ground.phase }, { on := 9, ground := Ground.phase }, { on := 10, ground := Ground.phase }, { on := 11, ground := Ground.phase }], guard := none }) rfl (fun K hK => ?_) ?_
              · go_simp
                refine hK.out _ _ ?_ (fun hHeld2 => ?_)
                · (try dsimp only); first | exact r12 | exact r11 | exact r10 | exact r9 | exact r8 | exact r6 | exact r2 | exact r0
                clear hK K
                try simp only [Act.put, List.setIfInBounds_toArray, List.set_cons_zero, List.set_cons_succ]
                refine wpAnyH_done (by kernel_rfl) ?_ _
                go_wp2_with fail
                refine prog_end 8 rfl HF.out.2.2.2 rfl rfl _ (fun w' hw' => ?_)
                obtain ⟨P1, P2, P3, P4⟩ := HF.out
                have hB := HX.out.2.2.2.2.1
                refine ⟨_, L', rfl, ?_, P2, P3.trans hw' (fun i e hi => ?_)⟩
                · refine ⟨hw'.own P1.row (fun q e hq => ?_), fun x hx => (P1.codes x hx).kept hw' (fun q e hq => ?_), P1.nd⟩
                  · subst hq
                    have := own_type P1.row e P4
                    exact absurd this (by decide)
                  · subst hq
                    have := own_type (P1.codes x hx) e P4
                    exact absurd this (by decide)
                · have e' : i = B + 1 := e
                  omega
              exact AllReadyH.nil
            exact AllReadyH.nil
          exact AllReadyH.nil
        exact AllReadyH.nil
      exact AllReadyH.nil
    exact AllReadyH.nil
  exact AllReadyH.nil
set_option maxHeartbeats 4000000 in
theorem foldAll_any (a : Option Addr) (n c : Nat) (fs : List Fn) (bd cb u : Int) (w : World) (hS : SeenF w a n fs) (hbd : 0 ≤ bd ∧ bd ≤ 1000) (hcb : 0 ≤ cb ∧ cb ≤ 1000) (hfs : ∀ f ∈ fs, f.code.length ≤ 1000 ∧ ∀ i ∈ f.code, i.kind = 5 → 0 ≤ i.b ∧ i.b ≤ 1000) (hn : n ≤ 100) :
    Calls Tryd.prog 27 #[.agg #[.slice a n c], .int .i64 bd, .int .i64 cb, .int .i64 u] w fun e w' => ∃ v L', e = .returned (.agg #[v]) ∧ OwnF w' w.heap.size v L' ∧ L'.map (·.1) = redP fs bd cb u ∧ Keeps None w w' := by
  obtain ⟨B, hB⟩ : ∃ B, B = w.heap.size := ⟨_, rfl⟩
  have b1 := heap_alloc_new w (.cells #[.slice a n c] 24)
  have q1 := Keeps.alloc None w (.cells #[.slice a n c] 24)
  obtain ⟨W1, hW1⟩ : ∃ W1, W1 = w.alloc (.cells #[.slice a n c] 24) := ⟨_, rfl⟩
  have s1 : W1.heap.size = B + 1 := by rw [hW1, hB]; simp
  rw [← hW1] at b1 q1
  rw [← hB] at b1
  have b2 := heap_alloc_new W1 (.cells #[.int .i64 cb] 3)
  have q2 := Keeps.alloc None W1 (.cells #[.int .i64 cb] 3)
  obtain ⟨W2, hW2⟩ : ∃ W2, W2 = W1.alloc (.cells #[.int .i64 cb] 3) := ⟨_, rfl⟩
  have s2 : W2.heap.size = B + 2 := by rw [hW2]; simp [s1]
  rw [← hW2] at b2 q2
  rw [s1] at b2
  have b3 := heap_alloc_new W2 (.cells #[.slice none 0 0] 24)
  have q3 := Keeps.alloc None W2 (.cells #[.slice none 0 0] 24)
  obtain ⟨W3, hW3⟩ : ∃ W3, W3 = W2.alloc (.cells #[.slice none 0 0] 24) := ⟨_, rfl⟩
  have s3 : W3.heap.size = B + 3 := by rw [hW3]; simp [s2]
  rw [← hW3] at b3 q3
  rw [s2] at b3
  have k3 : Keeps None w W3 := (q1.trans q2 (fun _ f _ => f)).trans q3 (fun _ f _ => f)
  have HX : Hid (Keeps None w W3 ∧ W3.heap[B]? = some (.cells #[.slice a n c] 24 (0, 0)) ∧ W3.heap[B + 1]? = some (.cells #[.int .i64 cb] 3 (0, 0)) ∧ W3.heap[B + 2]? = some (.cells #[.slice none 0 0] 24 (0, 0)) ∧ W3.heap.size = B + 3 ∧ B = w.heap.size ∧ SeenF w a n fs ∧ n ≤ 100) := ⟨k3, blk_kept (blk_kept b1 q2 (fun f => f)) q3 (fun f => f), blk_kept b2 q3 (fun f => f), b3, s3, hB, hS, hn⟩
  have HC : Hid (∀ f ∈ fs, f.code.length ≤ 1000 ∧ ∀ i ∈ f.code, i.kind = 5 → 0 ≤ i.b ∧ i.b ≤ 1000) := hfs
  have HBD : Hid ((0 ≤ bd ∧ bd ≤ 1000) ∧ 0 ≤ cb ∧ cb ≤ 1000) := ⟨hbd, hcb⟩
  clear b1 b2 b3 q1 q2 q3 k3 s1 s2 s3 hS hfs hn hbd hcb
  go_enter Tryd.func27, Tryd.ntmps27
  go_upto_region 1 with fail
  rw [← hW1, ← hW2, ← hW3, ← hB]
  clear hW1 hW2 hW3 hB
  have r00 : W3.cell? ⟨B + 1, 0, none⟩ = some (.int .i64 cb) := (blk_cell HX.out.2.2.1 0).trans rfl
  have r0 : W3.drew.cell? ⟨B + 1, 0, none⟩ = some (.int .i64 cb) := (Keeps.drew None W3).cell r00 (fun f => f)
  have hbh := behind_any W3.drew
  rw [show W3.drew.heap.size = B + 3 from HX.out.2.2.2.2.1] at hbh
  unfold renV at hbh
  go_cut [] (fun wc => wc.heap[B + 1]? = some (.cells #[.int .i64 (cb + 2)] 3 (0, 0)) ∧ Keeps (· = B + 1) W3 wc)
  case first =>
    refine wp_region_held_drew (S := (fun w' => True)) (by kernel_rfl) ?_ (fun hHeld => ?_)
    · (try dsimp only); all_goals trivial
    refine wpAnyH_ready (rs := [0, 1]) (by kernel_rfl) (by simp) ?_
    refine AllReadyH.cons (o := { dst := some 10, op := Op.call { callee := Callee.value (Operand.func 41), args := #[Operand.const (Value.int IntKind.i64 2)], argTypes := #[3] }, type := 65, pos := "made.go:62", after := #[], guard := none }) rfl (fun K hK => ?_) ?_
    · go_simp
      refine hbh.mono ?_
      rintro _ w4 ⟨rfl, hp4, k4⟩
      have j4 : Keeps None W3 w4 := (Keeps.drew None W3).trans k4 (fun _ f _ => f)
      have r4 := j4.cell r00 (fun f => f)
      have hcl := behind1_any cb (B + 3) w4 hp4 (by have := HBD.out; omega) (by have := HBD.out; omega)
      have b4 := blk_kept HX.out.2.2.1 j4 (fun f => f)
      have f4 := blk_free b4 0
      clear hp4
      refine hK.out _ _ ?_ (fun hHeld2 => ?_)
      · (try dsimp only); all_goals trivial
      clear hK K
      try simp only [Act.put, List.setIfInBounds_toArray, List.set_cons_zero, List.set_cons_succ]
      refine wpAnyH_ready (rs := [1]) (by kernel_rfl) (by simp) ?_
      refine AllReadyH.cons (o := { dst := some 11, op := Op.load 3 (Operand.tmp 6), type := 3, pos := "made.go:62", after := #[], guard := none }) rfl (fun K hK => ?_) ?_
      · go_simp
        refine hK.out _ _ ?_ (fun hHeld2 => ?_)
        · (try dsimp only); all_goals trivial
        clear hK K
        try simp only [Act.put, List.setIfInBounds_toArray, List.set_cons_zero, List.set_cons_succ]
        refine wpAnyH_ready (rs := [2]) (by kernel_rfl) (by simp) ?_
        refine AllReadyH.cons (o := { dst := some 12, op := Op.call { callee := Callee.value (Operand.tmp 10), args := #[Operand.tmp 11], argTypes := #[3] }, type := 3, pos := "made.go:62", after := #[{ on := 0, ground := Ground.data }, { on := 1, ground := Ground.data }, { on := 0, ground := Ground.chain }], guard := none }) rfl (fun K hK => ?_) ?_
        · go_simp
          refine hcl.mono ?_
          rintro _ w5 ⟨rfl, hw5⟩
          have hw6 := hw5.symm
          subst hw6
          refine hK.out _ _ ?_ (fun hHeld2 => ?_)
          · (try dsimp only); all_goals trivial
          clear hK K
          try simp only [Act.put, List.setIfInBounds_toArray, List.set_cons_zero, List.set_cons_succ]
          refine wpAnyH_ready (rs := [3]) (by kernel_rfl) (by simp) ?_
          refine AllReadyH.cons (o := { dst := none, op := Op.store 3 (Operand.tmp 6) (Operand.tmp 12), type := 0, pos := "made.go:62", after := #[{ on := 2, ground := Ground.data }, { on := 2, ground := Ground.chain }, { on := 0, ground := Ground.phase }, { on := 1, ground := Ground.phase }, { on := 2, ground := Ground.phase }], guard := none }) rfl (fun K hK => ?_) ?_
          · go_simp
            refine hK.out _ _ ?_ (fun hHeld2 => ?_)
            · (try dsimp only); all_goals trivial
            clear hK K
            try simp only [Act.put, List.setIfInBounds_toArray, List.set_cons_zero, List.set_cons_succ]
            refine wpAnyH_done (by kernel_rfl) ?_ _
            go_wp2_with fail
            go_meet
            exact ⟨blk_set (i := 0) b4 _, (j4.mono (T := (· = B + 1)) (fun _ f _ => f.elim)).andSet (x := ⟨B + 1, 0, none⟩) (.inl rfl) _⟩
          exact AllReadyH.nil
        exact AllReadyH.nil
      exact AllReadyH.nil
    refine AllReadyH.cons (o := { dst := some 11, op := Op.load 3 (Operand.tmp 6), type := 3, pos := "made.go:62", after := #[], guard := none }) rfl (fun K hK => ?_) ?_
    · go_simp
      refine hK.out _ _ ?_ (fun hHeld2 => ?_)
      · (try dsimp only); all_goals trivial
      clear hK K
      try simp only [Act.put, List.setIfInBounds_toArray, List.set_cons_zero, List.set_cons_succ]
      refine wpAnyH_ready (rs := [0]) (by kernel_rfl) (by simp) ?_
      refine AllReadyH.cons (o := { dst := some 10, op := Op.call { callee := Callee.value (Operand.func 41), args := #[Operand.const (Value.int IntKind.i64 2)], argTypes := #[3] }, type := 65, pos := "made.go:62", after := #[], guard := none }) rfl (fun K hK => ?_) ?_
      · go_simp
        refine hbh.mono ?_
        rintro _ w4 ⟨rfl, hp4, k4⟩
        have j4 : Keeps None W3 w4 := (Keeps.drew None W3).trans k4 (fun _ f _ => f)
        have r4 := j4.cell r00 (fun f => f)
        have hcl := behind1_any cb (B + 3) w4 hp4 (by have := HBD.out; omega) (by have := HBD.out; omega)
        have b4 := blk_kept HX.out.2.2.1 j4 (fun f => f)
        have f4 := blk_free b4 0
        clear hp4
        refine hK.out _ _ ?_ (fun hHeld2 => ?_)
        · (try dsimp only); all_goals trivial
        clear hK K
        try simp only [Act.put, List.setIfInBounds_toArray, List.set_cons_zero, List.set_cons_succ]
        refine wpAnyH_ready (rs := [2]) (by kernel_rfl) (by simp) ?_
        refine AllReadyH.cons (o := { dst := some 12, op := Op.call { callee := Callee.value (Operand.tmp 10), args := #[Operand.tmp 11], argTypes := #[3] }, type := 3, pos := "made.go:62", after := #[{ on := 0, ground := Ground.data }, { on := 1, ground := Ground.data }, { on := 0, ground := Ground.chain }], guard := none }) rfl (fun K hK => ?_) ?_
        · go_simp
          refine hcl.mono ?_
          rintro _ w5 ⟨rfl, hw5⟩
          have hw6 := hw5.symm
          subst hw6
          refine hK.out _ _ ?_ (fun hHeld2 => ?_)
          · (try dsimp only); all_goals trivial
          clear hK K
          try simp only [Act.put, List.setIfInBounds_toArray, List.set_cons_zero, List.set_cons_succ]
          refine wpAnyH_ready (rs := [3]) (by kernel_rfl) (by simp) ?_
          refine AllReadyH.cons (o := { dst := none, op := Op.store 3 (Operand.tmp 6) (Operand.tmp 12), type := 0, pos := "made.go:62", after := #[{ on := 2, ground := Ground.data }, { on := 2, ground := Ground.chain }, { on := 0, ground := Ground.phase }, { on := 1, ground := Ground.phase }, { on := 2, ground := Ground.phase }], guard := none }) rfl (fun K hK => ?_) ?_
          · go_simp
            refine hK.out _ _ ?_ (fun hHeld2 => ?_)
            · (try dsimp only); all_goals trivial
            clear hK K
            try simp only [Act.put, List.setIfInBounds_toArray, List.set_cons_zero, List.set_cons_succ]
            refine wpAnyH_done (by kernel_rfl) ?_ _
            go_wp2_with fail
            go_meet
            exact ⟨blk_set (i := 0) b4 _, (j4.mono (T := (· = B + 1)) (fun _ f _ => f.elim)).andSet (x := ⟨B + 1, 0, none⟩) (.inl rfl) _⟩
          exact AllReadyH.nil
        exact AllReadyH.nil
      exact AllReadyH.nil
    exact AllReadyH.nil
  case rest =>
    obtain ⟨bC, kc⟩ := hcut
    clear r00 r0
    obtain ⟨X1, X2, X3, X4, X5, X6, X7, X8⟩ := HX.out
    have kwc : Keeps None w wc := X1.trans kc (fun i e hi => by have e' : i = B + 1 := e; omega)
    have hmd := madeR_any a n c fs bd u (cb + 2) (B + 1) wc ((blk_cell bC 0).trans rfl) (X7.more kwc) HBD.out.1 HC.out X8
    have d0 : wc.cell? ⟨B, 0, none⟩ = some (.slice a n c) := (blk_cell (blk_kept X2 kc (by omega)) 0).trans rfl
    have HY : Hid (Keeps None w wc ∧ wc.heap[B + 2]? = some (.cells #[.slice none 0 0] 24 (0, 0)) ∧ B = w.heap.size) := ⟨kwc, blk_kept X4 kc (by omega), X6⟩
    clear X1 X2 X3 X4 X5 X6 X7 X8 kwc kc bC hbh
    go_wp2_with fail
    refine hmd.mono ?_
    rintro _ w3 ⟨v3, L', rfl, oL', hm', k3⟩
    obtain ⟨a3, c3, rfl, -⟩ := oL'.seen
    have bR := blk_kept HY.out.2.1 k3 (fun f => f)
    have z0 : w3.cell? ⟨B + 2, 0, none⟩ = some (.slice none 0 0) := (blk_cell bR 0).trans rfl
    have z1 := blk_free bR 0
    have HF : Hid (OwnF w3 w.heap.size (.slice a3 L'.length c3) L' ∧ L'.map (·.1) = redP fs bd cb u ∧ Keeps None w w3 ∧ w3.heap[B + 2]? = some (.cells #[.slice none 0 0] 24 (0, 0))) := ⟨oL'.low HY.out.1.size, hm', HY.out.1.trans k3 (fun _ f _ => f), bR⟩
    clear oL' hm' k3 bR hmd d0
    go_wp2
    refine prog_end 8 rfl HF.out.2.2.2 rfl rfl _ (fun w' hw' => ?_)
    obtain ⟨P1, P2, P3, P4⟩ := HF.out
    have hB := HY.out.2.2
    refine ⟨_, L', rfl, ?_, P2, P3.trans hw' (fun i e hi => ?_)⟩
    · refine ⟨hw'.own P1.row (fun q e hq => ?_), fun x hx => (P1.codes x hx).kept hw' (fun q e hq => ?_), P1.nd⟩
      · subst hq
        have := own_type P1.row e P4
        exact absurd this (by decide)
      · subst hq
        have := own_type (P1.codes x hx) e P4
        exact absurd this (by decide)
    · have e' : i = B + 2 := e
      omega
end Go.Proofs.YtiibflbfnoddmaaDoor
