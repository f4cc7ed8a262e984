import Derived.Test.YtdpljbdnbmdokaaDoorPkAU
/-! What parlib's programs are made of. -/
namespace Go.Proofs.YtdpljbdnbmdokaaDoor
set_option linter.unusedVariables false
set_option maxRecDepth 20000
open Go.RowKit Go.HeapKit Go.PlainOps

def slV (l : List (Value × List Ins)) : Array Value := (l.map (·.1)).toArray
theorem seenS_lit (w : World) (vs : List (Value × List Ins)) (us : Array Value) (n : Nat) (ls : List (List Ins)) (H : Nat) (hH : w.heap.size = H) (e : us = slV vs) (hn : n = vs.length) (hl : ls = vs.map (·.2)) (h : ∀ x ∈ vs, ∃ b, OwnC w b x.1 x.2) : SeenS (w.alloc (.cells us 26)) (some ⟨H, 0, none⟩) n ls := by
  subst e hn hl hH
  refine ⟨by simp, fun _ => ⟨w.heap.size, 0, rfl, fun k l hk => ?_⟩⟩
  rw [List.getElem?_map] at hk
  obtain ⟨x, hx, rfl⟩ := Option.map_eq_some_iff.1 hk
  obtain ⟨b, hb⟩ := h x (List.mem_of_getElem? hx)
  obtain ⟨ca, cc, e, hs⟩ := hb.shape
  refine ⟨ca, cc, ?_, hs.more (Keeps.alloc _ _ _)⟩
  rw [blk_cell (heap_alloc_new w _), Nat.zero_add]
  simp [slV, hx, e]
theorem own_nil (w : World) (b : Nat) : OwnC w b (.slice none 0 0) [] := ⟨rfl, .inl ⟨rfl, rfl⟩⟩
theorem nothing_any (v : Value) (w : World) : Calls Tryd.prog 33 #[v] w fun e w' => e = .returned (.slice none 0 0) ∧ Keeps None w w' := by
  go_enter Tryd.func33, Tryd.ntmps33
  go_wp2
  go_ret
  exact ⟨rfl, Keeps.refl _ _⟩
set_option maxHeartbeats 1600000 in
theorem leaf_any (bd u : Int) (w : World) : Calls Tryd.prog 46 #[.int .i64 bd, .int .i64 u, .func (Fn.func 33) #[] #[]] w fun e w' => ∃ ca cc, e = .returned (.slice ca (lfC bd u []).length cc) ∧ OwnC w' w.heap.size (.slice ca (lfC bd u []).length cc) (lfC bd u []) ∧ Keeps None w w' := by
  have j0 : Keeps None w w := Keeps.refl _ _
  go_enter Tryd.func46, Tryd.ntmps46
  go_wp2_with fail
  refine (asm_const _ _ _).mono ?_
  rintro _ w1 ⟨rfl, k1⟩
  have j1 : Keeps None w w1 := j0.trans k1 (fun _ f _ => f)
  clear k1
  go_wp2_with fail
  refine (asm_const _ _ _).mono ?_
  rintro _ w2 ⟨rfl, k2⟩
  have j2 : Keeps None w w2 := j1.trans k2 (fun _ f _ => f)
  clear k2
  go_wp2_with fail
  refine (asm_spawn _ _ _ _).mono ?_
  rintro _ w3 ⟨rfl, k3⟩
  have a1 := (own_lit w2 [⟨0, 6, 0, 0, u⟩, ⟨0, 9, 0, 0, 1⟩] _ 2 rfl rfl (by simp)).more k3
  have j3 : Keeps None w w3 := (j2.andAlloc _).trans k3 (fun _ f _ => f)
  clear k3
  go_wp2_with fail
  refine (asm_sync _).mono ?_
  rintro _ w4 ⟨rfl, k4⟩
  replace a1 := a1.more k4
  have j4 : Keeps None w w4 := j3.trans k4 (fun _ f _ => f)
  clear k4
  go_wp2_with fail
  refine (asm_load _ _ _).mono ?_
  rintro _ w5 ⟨rfl, k5⟩
  replace a1 := (a1.more (Keeps.alloc None _ _)).more k5
  have a2 := (own_lit w4 [⟨5, 0, bd, 0, 0⟩, ⟨6, 0, 0, 0, 0⟩] _ 2 rfl rfl (by simp)).more k5
  have j5 : Keeps None w w5 := (j4.andAlloc _).trans k5 (fun _ f _ => f)
  clear k5
  go_wp2_with fail
  refine (nothing_any _ _).mono ?_
  rintro _ w6 ⟨rfl, k6⟩
  replace a1 := (a1.more (Keeps.alloc None _ _)).more k6
  replace a2 := (a2.more (Keeps.alloc None _ _)).more k6
  have a0 := (own_lit w5 [⟨7, 7, 0, 0, 0⟩] _ 1 rfl rfl (by simp)).more k6
  have j6 : Keeps None w w6 := (j5.andAlloc _).trans k6 (fun _ f _ => f)
  clear k6
  go_wp2_with fail
  refine (asm_arith _ _ _ _ _).mono ?_
  rintro _ w7 ⟨rfl, k7⟩
  replace a1 := a1.more k7
  replace a2 := a2.more k7
  replace a0 := a0.more k7
  have j7 : Keeps None w w7 := j6.trans k7 (fun _ f _ => f)
  clear k7
  go_wp2_with fail
  refine (asm_arith _ _ _ _ _).mono ?_
  rintro _ w8 ⟨rfl, k8⟩
  replace a1 := a1.more k8
  replace a2 := a2.more k8
  replace a0 := a0.more k8
  have j8 : Keeps None w w8 := j7.trans k8 (fun _ f _ => f)
  clear k8
  go_wp2_with fail
  refine (asm_branch _ _ _).mono ?_
  rintro _ w9 ⟨rfl, k9⟩
  replace a1 := a1.more k9
  replace a2 := a2.more k9
  replace a0 := a0.more k9
  have j9 : Keeps None w w9 := j8.trans k9 (fun _ f _ => f)
  clear k9
  go_wp2_with fail
  refine (asm_return _ _).mono ?_
  rintro _ w10 ⟨rfl, k10⟩
  replace a1 := a1.more k10
  replace a2 := a2.more k10
  replace a0 := a0.more k10
  have j10 : Keeps None w w10 := j9.trans k10 (fun _ f _ => f)
  clear k10
  have al := own_lit w10 [⟨2, 0, 0, 9, 0⟩, ⟨2, 10, 0, 1, 12⟩, ⟨4, 10, 5, 0, 0⟩, ⟨9, 6, 0, 0, 0⟩] _ 4 rfl rfl (by simp)
  go_wp2_with fail
  refine (concat_any _ 4 4 [[⟨0, 6, 0, 0, u⟩, ⟨0, 9, 0, 0, 1⟩], [⟨5, 0, bd, 0, 0⟩, ⟨6, 0, 0, 0, 0⟩], [], [⟨2, 0, 0, 9, 0⟩, ⟨2, 10, 0, 1, 12⟩, ⟨4, 10, 5, 0, 0⟩, ⟨9, 6, 0, 0, 0⟩]] _ (seenS_lit _ [(_, [⟨0, 6, 0, 0, u⟩, ⟨0, 9, 0, 0, 1⟩]), (_, [⟨5, 0, bd, 0, 0⟩, ⟨6, 0, 0, 0, 0⟩]), (.slice none 0 0, []), (_, [⟨2, 0, 0, 9, 0⟩, ⟨2, 10, 0, 1, 12⟩, ⟨4, 10, 5, 0, 0⟩, ⟨9, 6, 0, 0, 0⟩])] _ 4 [[⟨0, 6, 0, 0, u⟩, ⟨0, 9, 0, 0, 1⟩], [⟨5, 0, bd, 0, 0⟩, ⟨6, 0, 0, 0, 0⟩], [], [⟨2, 0, 0, 9, 0⟩, ⟨2, 10, 0, 1, 12⟩, ⟨4, 10, 5, 0, 0⟩, ⟨9, 6, 0, 0, 0⟩]] _ (by simp) rfl rfl rfl ?_) (by omega) (by simp) (by simp)).mono ?_
  · intro x hx
    simp only [List.mem_cons, List.not_mem_nil, or_false] at hx
    rcases hx with rfl | rfl | rfl | rfl
    · exact ⟨_, a1.more (Keeps.alloc None _ _)⟩
    · exact ⟨_, a2.more (Keeps.alloc None _ _)⟩
    · exact ⟨0, own_nil _ _⟩
    · exact ⟨_, al⟩
  rintro _ wz ⟨ca, cc, rfl, ho, hk⟩
  have HF : Hid (OwnC wz w.heap.size _ _ ∧ Keeps None w wz) := ⟨ho.low (by have := j10.size; simp; omega), ((j10.andAlloc _).andAlloc _).trans hk (fun _ f _ => f)⟩
  clear ho hk
  go_wp2
  go_ret
  exact ⟨ca, cc, rfl, HF.out.1, HF.out.2⟩
set_option maxHeartbeats 1600000 in
theorem halves_any (w : World) : Calls Tryd.prog 47 #[.func (Fn.func 33) #[] #[]] w fun e w' => ∃ ca cc, e = .returned (.slice ca (hvC []).length cc) ∧ OwnC w' w.heap.size (.slice ca (hvC []).length cc) (hvC []) ∧ Keeps None w w' := by
  have j0 : Keeps None w w := Keeps.refl _ _
  go_enter Tryd.func47, Tryd.ntmps47
  go_wp2_with fail
  refine (asm_const _ _ _).mono ?_
  rintro _ w1 ⟨rfl, k1⟩
  have j1 : Keeps None w w1 := j0.trans k1 (fun _ f _ => f)
  clear k1
  go_wp2_with fail
  refine (asm_arith _ _ _ _ _).mono ?_
  rintro _ w2 ⟨rfl, k2⟩
  have j2 : Keeps None w w2 := j1.trans k2 (fun _ f _ => f)
  clear k2
  go_wp2_with fail
  refine (asm_arith _ _ _ _ _).mono ?_
  rintro _ w3 ⟨rfl, k3⟩
  have j3 : Keeps None w w3 := j2.trans k3 (fun _ f _ => f)
  clear k3
  go_wp2_with fail
  refine (asm_move _ _ _).mono ?_
  rintro _ w4 ⟨rfl, k4⟩
  have a1 := (own_lit w3 [⟨0, 4, 0, 0, 2⟩, ⟨2, 4, 8, 4, 3⟩, ⟨2, 4, 0, 4, 0⟩] _ 3 rfl rfl (by simp)).more k4
  have j4 : Keeps None w w4 := (j3.andAlloc _).trans k4 (fun _ f _ => f)
  clear k4
  go_wp2_with fail
  refine (asm_move _ _ _).mono ?_
  rintro _ w5 ⟨rfl, k5⟩
  replace a1 := a1.more k5
  have j5 : Keeps None w w5 := j4.trans k5 (fun _ f _ => f)
  clear k5
  go_wp2_with fail
  refine (asm_spawn _ _ _ _).mono ?_
  rintro _ w6 ⟨rfl, k6⟩
  replace a1 := a1.more k6
  have j6 : Keeps None w w6 := j5.trans k6 (fun _ f _ => f)
  clear k6
  go_wp2_with fail
  refine (asm_move _ _ _).mono ?_
  rintro _ w7 ⟨rfl, k7⟩
  replace a1 := (a1.more (Keeps.alloc None _ _)).more k7
  have a2 := (own_lit w6 [⟨1, 3, 0, 0, 0⟩, ⟨1, 5, 2, 0, 0⟩, ⟨5, 0, 1, 3, 0⟩] _ 3 rfl rfl (by simp)).more k7
  have j7 : Keeps None w w7 := (j6.andAlloc _).trans k7 (fun _ f _ => f)
  clear k7
  go_wp2_with fail
  refine (asm_spawn _ _ _ _).mono ?_
  rintro _ w8 ⟨rfl, k8⟩
  replace a1 := a1.more k8
  replace a2 := a2.more k8
  have j8 : Keeps None w w8 := j7.trans k8 (fun _ f _ => f)
  clear k8
  go_wp2_with fail
  refine (asm_sync _).mono ?_
  rintro _ w9 ⟨rfl, k9⟩
  replace a1 := a1.more k9
  replace a2 := a2.more k9
  have j9 : Keeps None w w9 := j8.trans k9 (fun _ f _ => f)
  clear k9
  go_wp2_with fail
  refine (asm_load _ _ _).mono ?_
  rintro _ w10 ⟨rfl, k10⟩
  replace a1 := (a1.more (Keeps.alloc None _ _)).more k10
  replace a2 := (a2.more (Keeps.alloc None _ _)).more k10
  have a3 := (own_lit w9 [⟨1, 0, 4, 0, 0⟩, ⟨5, 1, 1, 0, 0⟩, ⟨6, 0, 0, 0, 0⟩] _ 3 rfl rfl (by simp)).more k10
  have j10 : Keeps None w w10 := (j9.andAlloc _).trans k10 (fun _ f _ => f)
  clear k10
  go_wp2_with fail
  refine (asm_load _ _ _).mono ?_
  rintro _ w11 ⟨rfl, k11⟩
  replace a1 := a1.more k11
  replace a2 := a2.more k11
  replace a3 := a3.more k11
  have j11 : Keeps None w w11 := j10.trans k11 (fun _ f _ => f)
  clear k11
  go_wp2_with fail
  refine (nothing_any _ _).mono ?_
  rintro _ w12 ⟨rfl, k12⟩
  replace a1 := (a1.more (Keeps.alloc None _ _)).more k12
  replace a2 := (a2.more (Keeps.alloc None _ _)).more k12
  replace a3 := (a3.more (Keeps.alloc None _ _)).more k12
  have a0 := (own_lit w11 [⟨7, 6, 0, 0, 0⟩, ⟨7, 7, 1, 0, 0⟩] _ 2 rfl rfl (by simp)).more k12
  have j12 : Keeps None w w12 := (j11.andAlloc _).trans k12 (fun _ f _ => f)
  clear k12
  go_wp2_with fail
  refine (asm_return _ _).mono ?_
  rintro _ w13 ⟨rfl, k13⟩
  replace a1 := a1.more k13
  replace a2 := a2.more k13
  replace a3 := a3.more k13
  replace a0 := a0.more k13
  have j13 : Keeps None w w13 := j12.trans k13 (fun _ f _ => f)
  clear k13
  have al := own_lit w13 [⟨9, 6, 0, 0, 0⟩] _ 1 rfl rfl (by simp)
  go_wp2_with fail
  refine (concat_any _ 5 5 [[⟨0, 4, 0, 0, 2⟩, ⟨2, 4, 8, 4, 3⟩, ⟨2, 4, 0, 4, 0⟩], [⟨1, 3, 0, 0, 0⟩, ⟨1, 5, 2, 0, 0⟩, ⟨5, 0, 1, 3, 0⟩], [⟨1, 0, 4, 0, 0⟩, ⟨5, 1, 1, 0, 0⟩, ⟨6, 0, 0, 0, 0⟩], [], [⟨9, 6, 0, 0, 0⟩]] _ (seenS_lit _ [(_, [⟨0, 4, 0, 0, 2⟩, ⟨2, 4, 8, 4, 3⟩, ⟨2, 4, 0, 4, 0⟩]), (_, [⟨1, 3, 0, 0, 0⟩, ⟨1, 5, 2, 0, 0⟩, ⟨5, 0, 1, 3, 0⟩]), (_, [⟨1, 0, 4, 0, 0⟩, ⟨5, 1, 1, 0, 0⟩, ⟨6, 0, 0, 0, 0⟩]), (.slice none 0 0, []), (_, [⟨9, 6, 0, 0, 0⟩])] _ 5 [[⟨0, 4, 0, 0, 2⟩, ⟨2, 4, 8, 4, 3⟩, ⟨2, 4, 0, 4, 0⟩], [⟨1, 3, 0, 0, 0⟩, ⟨1, 5, 2, 0, 0⟩, ⟨5, 0, 1, 3, 0⟩], [⟨1, 0, 4, 0, 0⟩, ⟨5, 1, 1, 0, 0⟩, ⟨6, 0, 0, 0, 0⟩], [], [⟨9, 6, 0, 0, 0⟩]] _ (by simp) rfl rfl rfl ?_) (by omega) (by simp) (by simp)).mono ?_
  · intro x hx
    simp only [List.mem_cons, List.not_mem_nil, or_false] at hx
    rcases hx with rfl | rfl | rfl | rfl | rfl
    · exact ⟨_, a1.more (Keeps.alloc None _ _)⟩
    · exact ⟨_, a2.more (Keeps.alloc None _ _)⟩
    · exact ⟨_, a3.more (Keeps.alloc None _ _)⟩
    · exact ⟨0, own_nil _ _⟩
    · exact ⟨_, al⟩
  rintro _ wz ⟨ca, cc, rfl, ho, hk⟩
  have HF : Hid (OwnC wz w.heap.size _ _ ∧ Keeps None w wz) := ⟨ho.low (by have := j13.size; simp; omega), ((j13.andAlloc _).andAlloc _).trans hk (fun _ f _ => f)⟩
  clear ho hk
  go_wp2
  go_ret
  exact ⟨ca, cc, rfl, HF.out.1, HF.out.2⟩
theorem fn_end {Q : Ending → World → Prop} {a : Act} {w1 : World} {g : Nat} {c : Array Value} {fn : Func} (q : Tmp) (hfn : fn.results = #[.cell q 28]) (hc : c.size = 4) (hb : w1.heap[g]? = some (.cells c 28 (0, 0)))
    (ha : a.tmps.getD q undef = .pointer (some ⟨g, 0, none⟩)) (hd : a.defers = []) (v0 v1 v2 v3 : Value) (hQ : ∀ w', Keeps (· = g) w1 w' → Q (.returned (.agg #[v0, v1, v2, v3])) w') :
    bodyPost Tryd.prog fn Q .ret a ((((w1.setCell ⟨g, 0, none⟩ v0).setCell ⟨g, 1, none⟩ v1).setCell ⟨g, 2, none⟩ v2).setCell ⟨g, 3, none⟩ v3) := by
  have hb2 := blk_set (i := 3) (blk_set (i := 2) (blk_set (i := 1) (blk_set (i := 0) hb v0) v1) v2) v3
  have hc3 : (((c.setIfInBounds 0 v0).setIfInBounds 1 v1).setIfInBounds 2 v2).setIfInBounds 3 v3 = #[v0, v1, v2, v3] := by
    obtain ⟨l⟩ := c
    match l, hc with
    | [x0, x1, x2, x3], _ => rfl
  rw [hc3] at hb2
  refine bodyPost_ret (results_one (q := q) (ty := 28) hfn ha (run_loadVar_row _ g 28 28 _ _ _ hb2 Tryd.underlying28 rfl (by kernel_rfl))) hd (hQ _ ?_)
  exact (((Keeps.setCell (S := (· = g)) w1 (a := ⟨g, 0, none⟩) rfl _).andSet (x := ⟨g, 1, none⟩) (.inl rfl) _).andSet (x := ⟨g, 2, none⟩) (.inl rfl) _).andSet (x := ⟨g, 3, none⟩) (.inl rfl) _
set_option maxHeartbeats 1600000 in
theorem entry_any (u : Int) (w : World) : Calls Tryd.prog 44 #[.int .i64 u] w fun e w' => ∃ v, e = .returned (.agg #[.int .i64 2, .int .i64 7, .int .i64 1, v]) ∧ OwnC w' w.heap.size v (entC u) ∧ Keeps None w w' := by
  have j0 : Keeps None w w := Keeps.refl _ _
  go_enter Tryd.func44, Tryd.ntmps44
  go_wp2_with fail
  refine (asm_const _ _ _).mono ?_
  rintro _ w1 ⟨rfl, k1⟩
  have j1 : Keeps None w w1 := (j0.andAlloc _).trans k1 (fun _ f _ => f)
  have bG := blk_kept (heap_alloc_new w (.cells #[.int .i64 0, .int .i64 0, .int .i64 0, .slice none 0 0] 28)) k1 (fun f => f)
  clear k1
  go_wp2_with fail
  refine (asm_const _ _ _).mono ?_
  rintro _ w2 ⟨rfl, k2⟩
  have j2 : Keeps None w w2 := j1.trans k2 (fun _ f _ => f)
  replace bG := blk_kept bG k2 (fun f => f)
  clear k2
  go_wp2_with fail
  refine (asm_arith _ _ _ _ _).mono ?_
  rintro _ w3 ⟨rfl, k3⟩
  have j3 : Keeps None w w3 := j2.trans k3 (fun _ f _ => f)
  replace bG := blk_kept bG k3 (fun f => f)
  clear k3
  go_wp2_with fail
  refine (asm_branch _ _ _).mono ?_
  rintro _ w4 ⟨rfl, k4⟩
  have j4 : Keeps None w w4 := j3.trans k4 (fun _ f _ => f)
  replace bG := blk_kept bG k4 (fun f => f)
  clear k4
  go_wp2_with fail
  refine (asm_const _ _ _).mono ?_
  rintro _ w5 ⟨rfl, k5⟩
  have j5 : Keeps None w w5 := j4.trans k5 (fun _ f _ => f)
  replace bG := blk_kept bG k5 (fun f => f)
  clear k5
  go_wp2_with fail
  refine (asm_arith _ _ _ _ _).mono ?_
  rintro _ w6 ⟨rfl, k6⟩
  have j6 : Keeps None w w6 := j5.trans k6 (fun _ f _ => f)
  replace bG := blk_kept bG k6 (fun f => f)
  clear k6
  go_wp2_with fail
  refine (asm_move _ _ _).mono ?_
  rintro _ w7 ⟨rfl, k7⟩
  have j7 : Keeps None w w7 := j6.trans k7 (fun _ f _ => f)
  replace bG := blk_kept bG k7 (fun f => f)
  clear k7
  go_wp2_with fail
  refine (asm_spawn _ _ _ _).mono ?_
  rintro _ w8 ⟨rfl, k8⟩
  have j8 : Keeps None w w8 := j7.trans k8 (fun _ f _ => f)
  replace bG := blk_kept bG k8 (fun f => f)
  clear k8
  go_wp2_with fail
  refine (asm_sync _).mono ?_
  rintro _ w9 ⟨rfl, k9⟩
  have j9 : Keeps None w w9 := j8.trans k9 (fun _ f _ => f)
  replace bG := blk_kept bG k9 (fun f => f)
  clear k9
  go_wp2_with fail
  refine (asm_load _ _ _).mono ?_
  rintro _ w10 ⟨rfl, k10⟩
  have j10 : Keeps None w w10 := j9.trans k10 (fun _ f _ => f)
  replace bG := blk_kept bG k10 (fun f => f)
  clear k10
  go_wp2_with fail
  refine (asm_return _ _).mono ?_
  rintro _ w11 ⟨rfl, k11⟩
  have j11 : Keeps None w w11 := j10.trans k11 (fun _ f _ => f)
  replace bG := blk_kept bG k11 (fun f => f)
  clear k11
  have hlt := blk_lt bG
  have al := own_lit w11 (entC u) _ 11 rfl rfl (by simp [entC])
  go_wp2_with fail
  refine (asm_func _ _ _ _ _ _ _).mono ?_
  rintro _ w12 ⟨rfl, k12⟩
  replace al := al.more k12
  replace bG := blk_kept (blk_kept bG (Keeps.alloc None _ _) (fun f => f)) k12 (fun f => f)
  have j12 : Keeps None w w12 := (j11.andAlloc _).trans k12 (fun _ f _ => f)
  obtain ⟨G, hG⟩ : ∃ G, G = w.heap.size := ⟨_, rfl⟩
  have HF : Hid (OwnC w12 w11.heap.size _ _ ∧ Keeps None w w12 ∧ w.heap.size < w11.heap.size) := ⟨al, j12, hlt⟩
  rw [← hG] at bG
  have c0 : w12.cell? ⟨G, 0, none⟩ = some (.int .i64 0) := (blk_cell bG 0).trans rfl
  have c1 : w12.cell? ⟨G, 1, none⟩ = some (.int .i64 0) := (blk_cell bG 1).trans rfl
  have c2 : w12.cell? ⟨G, 2, none⟩ = some (.int .i64 0) := (blk_cell bG 2).trans rfl
  have c3 : w12.cell? ⟨G, 3, none⟩ = some (.slice none 0 0) := (blk_cell bG 3).trans rfl
  have z0 := blk_free bG 0
  have z1 := blk_free bG 1
  have z2 := blk_free bG 2
  have z3 := blk_free bG 3
  have HB : Hid (w12.heap[G]? = some (.cells #[.int .i64 0, .int .i64 0, .int .i64 0, .slice none 0 0] 28 (0, 0)) ∧ G = w.heap.size) := ⟨bG, hG⟩
  rw [← hG]
  clear al bG j12 k12 hG hlt
  go_wp2
  refine fn_end 2 rfl rfl HB.out.1 rfl rfl _ _ _ _ (fun w' hw' => ?_)
  refine ⟨_, rfl, (HF.out.1.kept hw' (fun g e q => ?_)).low (Nat.le_of_lt HF.out.2.2), HF.out.2.1.trans hw' (fun i e hi => ?_)⟩
  · have := (HF.out.1.base e).1; have := HF.out.2.2; have := HB.out.2; omega
  · have := HB.out.2; omega
set_option maxHeartbeats 1600000 in
theorem ranged_any (a1 a2 : Option Addr) (n1 c1 n2 c2 b1 b2 : Nat) (lf hv : List Ins) (w : World) (e1 : n1 = lf.length) (e2 : n2 = hv.length) (ol : OwnC w b1 (.slice a1 n1 c1) lf) (oh : OwnC w b2 (.slice a2 n2 c2) hv) (h1 : lf.length ≤ 200) (h2 : hv.length ≤ 200) : Calls Tryd.prog 45 #[.slice a1 n1 c1, .slice a2 n2 c2] w fun e w' => ∃ v, e = .returned (.agg #[.int .i64 3, .int .i64 11, .int .i64 2, v]) ∧ OwnC w' w.heap.size v (rnC lf hv) ∧ Keeps None w w' := by
  have j0 : Keeps None w w := Keeps.refl _ _
  have i1 : (n1 : Int) ≤ 200 := by omega
  have HE : Hid (n1 = lf.length ∧ lf.length ≤ 200 ∧ hv.length ≤ 200) := ⟨e1, h1, h2⟩
  clear e1 e2 h1 h2
  go_enter Tryd.func45, Tryd.ntmps45
  go_wp2_with fail
  refine (asm_arith _ _ _ _ _).mono ?_
  rintro _ w1 ⟨rfl, k1⟩
  have j1 : Keeps None w w1 := (j0.andAlloc _).trans k1 (fun _ f _ => f)
  have bG := blk_kept (heap_alloc_new w (.cells #[.int .i64 0, .int .i64 0, .int .i64 0, .slice none 0 0] 28)) k1 (fun f => f)
  replace ol := (ol.more (Keeps.alloc None _ _)).more k1
  replace oh := (oh.more (Keeps.alloc None _ _)).more k1
  clear k1
  go_wp2_with fail
  refine (asm_arith _ _ _ _ _).mono ?_
  rintro _ w2 ⟨rfl, k2⟩
  have j2 : Keeps None w w2 := j1.trans k2 (fun _ f _ => f)
  replace bG := blk_kept bG k2 (fun f => f)
  replace ol := ol.more k2
  replace oh := oh.more k2
  clear k2
  go_wp2_with fail
  refine (asm_branch _ _ _).mono ?_
  rintro _ w3 ⟨rfl, k3⟩
  have j3 : Keeps None w w3 := j2.trans k3 (fun _ f _ => f)
  replace bG := blk_kept bG k3 (fun f => f)
  replace ol := ol.more k3
  replace oh := oh.more k3
  clear k3
  have hlt := blk_lt bG
  have al := own_lit w3 (choC (3 + (n1 : Int))) _ 3 rfl rfl (by simp [choC])
  replace bG := blk_kept bG (Keeps.alloc None _ (.cells (codeC (choC (3 + (n1 : Int)))).toArray 47)) (fun f => f)
  have hfl : [choC (3 + (n1 : Int)), lf, hv].flatten = rnC lf hv := by
    unfold rnC
    rw [← HE.out.1]
    simp
  have hle : (rnC lf hv).length ≤ 500 := by have := HE.out; simp [rnC, choC]; omega
  have hpo : 0 < (rnC lf hv).length := by simp [rnC, choC]
  go_wp2_with fail
  refine (concat_any _ 3 3 [choC (3 + (n1 : Int)), lf, hv] _ (seenS_lit _ [(_, choC (3 + (n1 : Int))), (_, lf), (_, hv)] _ 3 [choC (3 + (n1 : Int)), lf, hv] _ (by simp) rfl rfl rfl ?_) (by omega) (by rw [hfl]; exact hpo) (by rw [hfl]; omega)).mono ?_
  · intro x hx
    simp only [List.mem_cons, List.not_mem_nil, or_false] at hx
    rcases hx with rfl | rfl | rfl
    · exact ⟨_, al⟩
    · exact ⟨_, ol.more (Keeps.alloc None _ _)⟩
    · exact ⟨_, oh.more (Keeps.alloc None _ _)⟩
  rw [hfl]
  rintro _ w4 ⟨ca, cc, rfl, ho, hk⟩
  have j4 : Keeps None w w4 := ((j3.andAlloc _).andAlloc _).trans hk (fun _ f _ => f)
  replace bG := blk_kept (blk_kept bG (Keeps.alloc None _ _) (fun f => f)) hk (fun f => f)
  replace ho := ho.low (b2 := w3.heap.size) (by simp; omega)
  clear hk al
  generalize (rnC lf hv).length = R at *
  go_wp2_with fail
  refine (asm_func _ _ _ _ _ _ _).mono ?_
  rintro _ w5 ⟨rfl, k5⟩
  replace ho := ho.more k5
  replace bG := blk_kept bG k5 (fun f => f)
  have j5 : Keeps None w w5 := j4.trans k5 (fun _ f _ => f)
  obtain ⟨G, hG⟩ : ∃ G, G = w.heap.size := ⟨_, rfl⟩
  have HF : Hid (OwnC w5 w3.heap.size _ _ ∧ Keeps None w w5 ∧ w.heap.size < w3.heap.size) := ⟨ho, j5, hlt⟩
  rw [← hG] at bG
  have c0 : w5.cell? ⟨G, 0, none⟩ = some (.int .i64 0) := (blk_cell bG 0).trans rfl
  have c1' : w5.cell? ⟨G, 1, none⟩ = some (.int .i64 0) := (blk_cell bG 1).trans rfl
  have c2' : w5.cell? ⟨G, 2, none⟩ = some (.int .i64 0) := (blk_cell bG 2).trans rfl
  have c3 : w5.cell? ⟨G, 3, none⟩ = some (.slice none 0 0) := (blk_cell bG 3).trans rfl
  have z0 := blk_free bG 0
  have z1 := blk_free bG 1
  have z2 := blk_free bG 2
  have z3 := blk_free bG 3
  have HB : Hid (w5.heap[G]? = some (.cells #[.int .i64 0, .int .i64 0, .int .i64 0, .slice none 0 0] 28 (0, 0)) ∧ G = w.heap.size) := ⟨bG, hG⟩
  rw [← hG]
  clear ho bG j5 k5 hG hlt
  go_wp2
  refine fn_end 4 rfl rfl HB.out.1 rfl rfl _ _ _ _ (fun w' hw' => ?_)
  refine ⟨_, rfl, (HF.out.1.kept hw' (fun g e q => ?_)).low (Nat.le_of_lt HF.out.2.2), HF.out.2.1.trans hw' (fun i e hi => ?_)⟩
  · have := (HF.out.1.base e).1; have := HF.out.2.2; have := HB.out.2; omega
  · have := HB.out.2; omega
end Go.Proofs.YtdpljbdnbmdokaaDoor
/-! parlib.copied: a function in memory of its own, with the new numbers in its spawns. -/
namespace Go.Proofs.YtdpljbdnbmdokaaDoor
set_option linter.unusedVariables false
set_option maxRecDepth 20000
open Go.RowKit Go.HeapKit Go.PlainOps

/-- 'copy(code, f.Code)' over a block that is as long. -/
theorem copy_seen (ty : TypeId) (g n c : Nat) (cur : Array Value) (w : World) (hg : w.heap[g]? = some (.cells cur 47 (0, 0))) (hcs : cur.size = n * 5) (a : Option Addr) (cc : Nat) (l : List Ins) (h : SeenI w a n l) :
    ∃ w', (Builtin.copy_ #[26, 26] ty #[.slice (some ⟨g, 0, none⟩) n c, .slice a n cc]).run Tryd.prog w = .ok (goInt n) w' ∧ w'.heap[g]? = some (.cells (codeC l).toArray 47 (0, 0)) ∧ w.grownBy w' (some g) := by
  obtain ⟨i0, hi, hz0, hz1, hz2⟩ := info_parts Tryd.plIns
  have hu := Tryd.underlying26
  have hlen := codeC_length l
  rw [← h.len] at hlen
  cases a with
  | none =>
    have h0 : n = 0 := by
      by_cases hp : 0 < n
      · obtain ⟨b, off, e, _⟩ := h.ex hp
        cases e
      · omega
    subst h0
    obtain rfl : l = [] := List.eq_nil_of_length_eq_zero h.len.symm
    obtain rfl : cur = #[] := Array.eq_empty_of_size_eq_zero (by simpa using hcs)
    refine ⟨w, ?_, hg, ⟨rfl, rfl, rfl, Nat.le_refl _, fun _ _ _ => rfl⟩⟩
    simp [Builtin.copy_, run_underlying hu, Builtin.lenOf, Builtin.firstCells, sizeOf, typeInfo, hi, storeCells]
  | some x =>
    have hc : ∀ j u, (codeC l)[j]? = some u → w.cell? (x.add j) = some u := fun j u hu => by
      obtain ⟨k, i, o, h1, rfl, h3⟩ := codeC_cell hu
      have hk : 0 < n := by have := (List.getElem?_eq_some_iff.1 h1).1; have := h.len; omega
      obtain ⟨b, off, e, _, hc⟩ := h.ex hk
      obtain rfl := Option.some.inj e
      have hI := hc k i h1
      rw [show (⟨b, off, none⟩ : Addr).add (k * 5 + o) = ⟨b, off + k * 5 + o, none⟩ by unfold Addr.add; split <;> simp_all; omega]
      have ho : o < 5 := (List.getElem?_eq_some_iff.1 h3).1
      match o, ho, h3 with
      | 0, _, h3 => simp [insCells] at h3; subst h3; exact hI.kind
      | 1, _, h3 => simp [insCells] at h3; subst h3; exact hI.a
      | 2, _, h3 => simp [insCells] at h3; subst h3; exact hI.b
      | 3, _, h3 => simp [insCells] at h3; subst h3; exact hI.c
      | 4, _, h3 => simp [insCells] at h3; subst h3; exact hI.k
    have hf := run_firstCells_some (P := Tryd.prog) w 5 n x n cc (codeC l) hlen hc
    have hst := run_storeCells_at Tryd.prog g 0 47 (codeC l) 0 cur w hg (by rw [hlen, hcs]; omega) (codeC_one l)
    refine ⟨w.setRow g (codeC l).toArray, ?_, setRow_heap hg, ⟨rfl, rfl, rfl, by simp, fun k _ hk => setRow_other w g k _ (fun e => hk (by rw [e]))⟩⟩
    have he : cur.toList.take (0 + 0) ++ codeC l ++ cur.toList.drop (0 + 0 + (codeC l).length) = codeC l := by
      rw [show cur.toList.drop (0 + 0 + (codeC l).length) = [] from List.drop_eq_nil_of_le (by rw [hlen, Array.length_toList, hcs]; omega)]
      simp
    rw [he] at hst
    simp [Builtin.copy_, run_underlying hu, Builtin.lenOf, sizeOf, typeInfo, hi, hz1, hf, hst]
/-- Half of a list has its new numbers. -/
def halfL (l : List Ins) (k : Nat) : List Ins := (l.take k).map shI ++ l.drop k
theorem halfL_at {l : List Ins} {k : Nat} {i : Ins} (h : l[k]? = some i) : (halfL l k)[k]? = some i := by
  have hk := (List.getElem?_eq_some_iff.1 h).1
  unfold halfL
  rw [List.getElem?_append_right (by simp; omega), List.length_map, List.length_take, Nat.min_eq_left (by omega), Nat.sub_self, List.getElem?_drop, Nat.add_zero]
  exact h
theorem halfL_next {l : List Ins} {k : Nat} {i : Ins} (h : l[k]? = some i) : halfL l (k + 1) = (halfL l k).set k (shI i) := by
  have hk := (List.getElem?_eq_some_iff.1 h).1
  unfold halfL
  have e1 : l.take (k + 1) = l.take k ++ [i] := by rw [List.take_add_one, h]; rfl
  have e2 : l.drop k = i :: l.drop (k + 1) := by
    rw [List.drop_eq_getElem_cons hk]
    congr 1
    exact (List.getElem?_eq_some_iff.1 h).2
  rw [e1, e2, List.map_append, List.set_append_right _ _ (by simp; omega), List.length_map, List.length_take, Nat.min_eq_left (by omega), Nat.sub_self]
  simp
theorem halfL_length (l : List Ins) (k : Nat) (h : k ≤ l.length) : (halfL l k).length = l.length := by
  simp [halfL]
  omega
theorem halfL_done (l : List Ins) : halfL l l.length = l.map shI := by simp [halfL]
theorem codeC_set (l : List Ins) (k : Nat) (i : Ins) (x : Int) (h : l[k]? = some i) : (codeC l).set (k * 5 + 2) (.int .i64 x) = codeC (l.set k { i with b := x }) := by
  induction l generalizing k with
  | nil => simp at h
  | cons z l ih =>
    have e : codeC (z :: l) = insCells z ++ codeC l := rfl
    cases k with
    | zero =>
      simp at h
      subst h
      rfl
    | succ k =>
      have h1 := ih k (by simpa using h)
      have e2 : codeC ((z :: l).set (k + 1) { i with b := x }) = insCells z ++ codeC (l.set k { i with b := x }) := rfl
      rw [e, e2, ← h1, List.set_append_right _ _ (by simp [insCells]; omega)]
      congr 1
      rw [show (k + 1) * 5 + 2 - (insCells z).length = k * 5 + 2 by simp [insCells]; omega]
/-- The closure that tells the new numbers. -/
def renV (p : Nat) : Value := .func (Fn.func 56) #[] #[.pointer (some ⟨p, 0, none⟩)]
theorem behind1_any (x : Int) (p : Nat) (w : World) (hp : w.cell? ⟨p, 0, none⟩ = some (.int .i64 2)) (h0 : -1000000 ≤ x) (h1 : x ≤ 1000000) : Calls Tryd.prog 56 #[.int .i64 x, .pointer (some ⟨p, 0, none⟩)] w fun e w' => e = .returned (.int .i64 (x + 2)) ∧ w' = w := by
  go_enter Tryd.func56, Tryd.ntmps56
  go_wp2
  go_ret
  exact ⟨rfl, rfl⟩
theorem behind_any (w : World) : Calls Tryd.prog 42 #[.int .i64 2] w fun e w' => e = .returned (renV w.heap.size) ∧ w'.cell? ⟨w.heap.size, 0, none⟩ = some (.int .i64 2) ∧ Keeps None w w' := by
  go_enter Tryd.func42, Tryd.ntmps42
  go_wp2
  go_ret
  exact ⟨rfl, (blk_cell (heap_alloc_new w _) 0).trans rfl, Keeps.alloc _ _ _⟩
set_option maxHeartbeats 4000000 in
theorem copied_any (f : Fn) (ca : Option Addr) (cc : Nat) (p : Nat) (w : World) (hp : w.cell? ⟨p, 0, none⟩ = some (.int .i64 2)) (hs : SeenI w ca f.code.length f.code) (hb : ∀ i ∈ f.code, i.kind = 5 → 0 ≤ i.b ∧ i.b ≤ 1000) (hl : f.code.length ≤ 1000) :
    Calls Tryd.prog 57 #[.agg #[.int .i64 f.params, .int .i64 f.regs, .int .i64 f.slots, .slice ca f.code.length cc], renV p] w fun e w' => ∃ g c, e = .returned (.agg #[.int .i64 f.params, .int .i64 f.regs, .int .i64 f.slots, .slice (some ⟨g, 0, none⟩) f.code.length c]) ∧ OwnC w' w.heap.size (.slice (some ⟨g, 0, none⟩) f.code.length c) (f.code.map shI) ∧ Keeps None w w' := by
  obtain ⟨par, regs, slots, code⟩ := f
  simp only at *
  obtain ⟨n, hn⟩ : ∃ n, n = code.length := ⟨_, rfl⟩
  rw [← hn] at hs hl ⊢
  obtain ⟨B, hB⟩ : ∃ B, B = w.heap.size := ⟨_, rfl⟩
  obtain ⟨i0, hi, hz0, hz1, hz2⟩ := info_parts Tryd.plIns
  -- the two boxes
  have b1 := heap_alloc_new w (.cells #[.int .i64 par, .int .i64 regs, .int .i64 slots, .slice ca n cc] 28)
  have q1 := Keeps.alloc None w (.cells #[.int .i64 par, .int .i64 regs, .int .i64 slots, .slice ca n cc] 28)
  obtain ⟨W1, hW1⟩ : ∃ W1, W1 = w.alloc (.cells #[.int .i64 par, .int .i64 regs, .int .i64 slots, .slice ca n cc] 28) := ⟨_, rfl⟩
  have s1 : W1.heap.size = B + 1 := by rw [hW1, hB]; simp
  rw [← hW1] at b1 q1
  rw [← hB] at b1
  have b2 := heap_alloc_new W1 (.cells #[.int .i64 0, .int .i64 0, .int .i64 0, .slice none 0 0] 28)
  have q2 := Keeps.alloc None W1 (.cells #[.int .i64 0, .int .i64 0, .int .i64 0, .slice none 0 0] 28)
  obtain ⟨W2, hW2⟩ : ∃ W2, W2 = W1.alloc (.cells #[.int .i64 0, .int .i64 0, .int .i64 0, .slice none 0 0] 28) := ⟨_, rfl⟩
  have s2 : W2.heap.size = B + 2 := by rw [hW2]; simp [s1]
  rw [← hW2] at b2 q2
  rw [s1] at b2
  obtain ⟨M, hM, hMs, hmk⟩ := run_make_block (P := Tryd.prog) (w := W2) 26 47 i0 _ 5 40 Tryd.underlying26 hi hz0 hz1 hz2 n (by omega) (by omega)
  have b3 := heap_alloc_new W2 (.cells M 47)
  have q3 := Keeps.alloc None W2 (.cells M 47)
  rw [s2] at b3 hmk
  obtain ⟨W3, hW3⟩ : ∃ W3, W3 = W2.alloc (.cells M 47) := ⟨_, rfl⟩
  have s3 : W3.heap.size = B + 3 := by rw [hW3]; simp [s2]
  rw [← hW3] at b3 q3 hmk
  have k3 : Keeps None w W3 := (q1.trans q2 (fun _ f _ => f)).trans q3 (fun _ f _ => f)
  obtain ⟨W4, hcp, b4, hg4⟩ := copy_seen 3 (B + 2) n n M W3 b3 hMs ca cc code (hs.more k3)
  have q4 : Keeps (· = B + 2) W3 W4 := (Keeps.refl _ W3).andGrown hg4 (fun k e => .inl (by simpa using e.symm))
  have b1a := blk_kept (blk_kept b1 q2 (fun f => f)) q3 (fun f => f)
  have b1b := blk_kept b1a q4 (by omega)
  have b2b := blk_kept (blk_kept b2 q3 (fun f => f)) q4 (by omega)
  have hpB : p < B := by
    have h := hp
    simp only [World.cell?] at h
    by_cases hlt : p < w.heap.size
    · omega
    · rw [Array.getElem?_eq_none (by omega)] at h
      cases h
  have p4 : W4.cell? ⟨p, 0, none⟩ = some (.int .i64 2) := q4.cell (k3.cell hp (fun f => f)) (by
    intro e
    have e' : p = B + 2 := e
    omega)
  have d2 : W2.cell? ⟨B, 3, none⟩ = some (.slice ca n cc) := (blk_cell (blk_kept b1 q2 (fun f => f)) 3).trans rfl
  have d3 : W3.cell? ⟨B, 3, none⟩ = some (.slice ca n cc) := (blk_cell b1a 3).trans rfl
  have s4 : B + 3 ≤ W4.heap.size := by rw [← s3]; exact q4.size
  have HX : Hid (Keeps None w W4 ∧ W4.heap[B]? = some (.cells #[.int .i64 par, .int .i64 regs, .int .i64 slots, .slice ca n cc] 28 (0, 0)) ∧ W4.heap[B + 1]? = some (.cells #[.int .i64 0, .int .i64 0, .int .i64 0, .slice none 0 0] 28 (0, 0)) ∧ W4.cell? ⟨p, 0, none⟩ = some (.int .i64 2) ∧ W4.heap[B + 2]? = some (.cells (codeC code).toArray 47 (0, 0)) ∧ B = w.heap.size ∧ n = code.length ∧ B + 3 ≤ W4.heap.size ∧ n ≤ 1000 ∧ p < B) := ⟨k3.trans q4 (fun i e hi => by omega), b1b, b2b, p4, b4, hB, hn, s4, hl, hpB⟩
  have HC : Hid (∀ i ∈ code, i.kind = 5 → 0 ≤ i.b ∧ i.b ≤ 1000) := hb
  have i9 : (n : Int) ≤ 1000 := by omega
  clear b1 b2 b3 b1a b1b b2b p4 b4 hpB q1 q2 q3 q4 k3 hg4 hs hb s1 s3 s4 hp hl hn hM hMs hi hz0 hz1 hz2
  unfold renV
  go_enter Tryd.func57, Tryd.ntmps57
  go_upto_region 1 with fail
  rw [← hW1, ← hW2, ← hB]
  clear hW1 hW2 hB hW3 s2
  go_upto_region 2 with (at_make; refine wpList_make_run rfl (.tmp 9) (.tmp 9) 26 rfl rfl rfl hmk ?_)
  go_upto_region 3 with (at_builtin; refine wpList_copy_run rfl (.tmp 11) (.tmp 13) 26 26 rfl rfl rfl hcp ?_)
  clear hmk hcp d2 d3
  go_wp2_with fail
  go_loopw [6, 17] (fun _ s17 wr => ∃ k : Nat, k ≤ n ∧ s17 = .int .i64 k ∧ wr.heap[B + 2]? = some (.cells (codeC (halfL code k)).toArray 47 (0, 0)) ∧ Keeps (· = B + 2) W4 wr) (fun _ i _ => n - (intOf i).toNat)
  case atStart => exact ⟨0, Nat.zero_le _, rfl, by simpa [halfL] using HX.out.2.2.2.2.1, Keeps.refl _ _⟩
  case round =>
    obtain ⟨k, hk, rfl, hbk, hkp⟩ := hrel
    obtain ⟨X1, X2, X3, X4, X5, X6, X7, X8, X9, X10⟩ := HX.out
    by_cases hkn : k < n
    · have i1 : (k : Int) < (n : Int) := by omega
      have i2 : (0 : Int) ≤ (k : Int) := by omega
      have i3 : (k : Int) ≤ 1000 := by omega
      obtain ⟨i, hi⟩ : ∃ i, code[k]? = some i := ⟨code[k]'(by omega), by simp⟩
      have hhi := halfL_at hi
      have hc : ∀ j v, (insCells i)[j]? = some v → wr.cell? ⟨B + 2, k * 5 + j, none⟩ = some v := fun j v hv => by
        rw [blk_cell hbk]
        simpa using codeC_at (halfL code k) k i hhi j v hv
      have c0 : wr.cell? ⟨B + 2, k * 5, none⟩ = some (.int .i64 i.kind) := hc 0 _ rfl
      have c2 : wr.cell? ⟨B + 2, k * 5 + 2, none⟩ = some (.int .i64 i.b) := hc 2 _ rfl
      have z2 := blk_free hbk (k * 5 + 2)
      by_cases h5 : i.kind = 5
      · have hbb := HC.out i (List.mem_of_getElem? hi) h5
        have t5 : (i.kind == 5) = true := by simp [h5]
        have hp5 : wr.cell? ⟨p, 0, none⟩ = some (.int .i64 2) := hkp.cell X4 (by
          intro e
          have e' : p = B + 2 := e
          omega)
        have hcall := behind1_any i.b p wr hp5 (by omega) (by omega)
        have hset := blk_set (i := k * 5 + 2) hbk (.int .i64 (i.b + 2))
        have e1 : (codeC (halfL code k)).toArray.setIfInBounds (k * 5 + 2) (.int .i64 (i.b + 2)) = (codeC (halfL code (k + 1))).toArray := by
          rw [halfL_next hi]
          unfold shI
          rw [if_pos h5, ← codeC_set _ k i (i.b + 2) hhi]
          simp
        rw [e1] at hset
        have hks : Keeps (· = B + 2) W4 (wr.setCell ⟨B + 2, k * 5 + 2, none⟩ (.int .i64 (i.b + 2))) := hkp.andSet (.inl rfl) _
        have HR : Hid _ := And.intro hset hks
        clear hset hks e1 hbk hkp hc hhi hi h5 X1 X2 X3 X4 X5 X6 X7 X8 X9 X10 hp5 hbb
        go_wp2_with (go_at_call 56; refine hcall.mono ?_; rintro _ w2 ⟨rfl, hw2⟩; have hw3 := hw2.symm; subst hw3)
        exact ⟨⟨k + 1, by omega, by simp, HR.out.1, HR.out.2⟩, by simp [intOf]; omega⟩
      · have t5 : (i.kind == 5) = false := by simp [h5]
        have e1 : halfL code (k + 1) = halfL code k := by
          rw [halfL_next hi]
          unfold shI
          rw [if_neg h5]
          exact set_same _ _ _ hhi
        rw [← e1] at hbk
        have HR : Hid _ := And.intro hbk hkp
        clear hbk hkp hc hhi hi h5 e1 X1 X2 X3 X4 X5 X6 X7 X8 X9 X10
        go_wp2
        exact ⟨⟨k + 1, by omega, by simp, HR.out.1, HR.out.2⟩, by simp [intOf]; omega⟩
    · have i1 : ¬ ((k : Int) < (n : Int)) := by omega
      obtain rfl : k = n := by omega
      rw [X7, halfL_done] at hbk
      have g1 := blk_kept X2 hkp (by omega)
      have g2 := blk_kept X3 hkp (by omega)
      have y1 := blk_free g1 3
      have y0 : wr.cell? ⟨B, 3, none⟩ = some (.slice ca k cc) := (blk_cell g1 3).trans rfl
      have g1b := blk_set (i := 3) g1 (.slice (some ⟨B + 2, 0, none⟩) k k)
      have kk := Keeps.setCell (S := (· = B)) wr (a := ⟨B, 3, none⟩) rfl (.slice (some ⟨B + 2, 0, none⟩) k k)
      have g2b := blk_kept g2 kk (by omega)
      have g3b := blk_kept hbk kk (by omega)
      obtain ⟨W5, hW5⟩ : ∃ W5, W5 = wr.setCell ⟨B, 3, none⟩ (.slice (some ⟨B + 2, 0, none⟩) k k) := ⟨_, rfl⟩
      rw [← hW5] at g1b kk g2b g3b
      have kw : Keeps None w W5 := (X1.trans hkp (fun i e hi => by omega)).trans kk (fun i e hi => by omega)
      have c0 : W5.cell? ⟨B, 0, none⟩ = some (.int .i64 par) := (blk_cell g1b 0).trans rfl
      have c1 : W5.cell? ⟨B, 1, none⟩ = some (.int .i64 regs) := (blk_cell g1b 1).trans rfl
      have c2 : W5.cell? ⟨B, 2, none⟩ = some (.int .i64 slots) := (blk_cell g1b 2).trans rfl
      have c3 : W5.cell? ⟨B, 3, none⟩ = some (.slice (some ⟨B + 2, 0, none⟩) k k) := (blk_cell g1b 3).trans rfl
      have e0 : W5.cell? ⟨B + 1, 0, none⟩ = some (.int .i64 0) := (blk_cell g2b 0).trans rfl
      have e1 : W5.cell? ⟨B + 1, 1, none⟩ = some (.int .i64 0) := (blk_cell g2b 1).trans rfl
      have e2 : W5.cell? ⟨B + 1, 2, none⟩ = some (.int .i64 0) := (blk_cell g2b 2).trans rfl
      have e3 : W5.cell? ⟨B + 1, 3, none⟩ = some (.slice none 0 0) := (blk_cell g2b 3).trans rfl
      have z0 := blk_free g2b 0
      have z1 := blk_free g2b 1
      have z2 := blk_free g2b 2
      have z3 := blk_free g2b 3
      have HF : Hid (Keeps None w W5 ∧ W5.heap[B + 1]? = some (.cells #[.int .i64 0, .int .i64 0, .int .i64 0, .slice none 0 0] 28 (0, 0)) ∧ W5.heap[B + 2]? = some (.cells (codeC (code.map shI)).toArray 47 (0, 0)) ∧ B = w.heap.size ∧ k = (code.map shI).length ∧ k ≤ 1000) := ⟨kw, g2b, g3b, X6, by simp [X7], X9⟩
      clear X1 X2 X3 X4 X5 X6 X7 X8 X9 X10 hbk hkp g1 g2 g1b g2b g3b kk kw HX HC
      go_upto_region 10 with fail
      rw [← hW5]
      clear hW5
      go_wp2
      refine fn_end 4 rfl rfl HF.out.2.1 rfl rfl _ _ _ _ (fun w' hw' => ?_)
      obtain ⟨F1, F2, F3, F4, F5, F6⟩ := HF.out
      have F3' := blk_kept F3 hw' (by omega)
      refine ⟨B + 2, k, rfl, ?_, F1.trans hw' (fun i e hi => by omega)⟩
      rw [F5, ← F4]
      exact ⟨codeC_length _, .inr ⟨B + 2, _, _, rfl, by omega, F3', Nat.le_refl _, by unfold maxLen; omega, by simp [codeC_length], List.take_of_length_le (by rw [codeC_length]; exact Nat.le_refl _)⟩⟩
end Go.Proofs.YtdpljbdnbmdokaaDoor
/-! parlib.ahead, made, forAll: For's program in memory. -/
namespace Go.Proofs.YtdpljbdnbmdokaaDoor
set_option linter.unusedVariables false
set_option maxRecDepth 20000
open Go.RowKit Go.HeapKit Go.PlainOps

def fnC (x : Fn × Value) : List Value := [.int .i64 x.1.params, .int .i64 x.1.regs, .int .i64 x.1.slots, x.2]
def fnsC (L : List (Fn × Value)) : List Value := L.flatMap fnC
theorem fnsC_length (L : List (Fn × Value)) : (fnsC L).length = L.length * 4 := by
  induction L with
  | nil => rfl
  | cons x l ih => simp only [fnsC, List.flatMap_cons, List.length_append, List.length_cons] at ih ⊢; rw [ih]; simp [fnC]; omega
theorem fnsC_append (a b : List (Fn × Value)) : fnsC (a ++ b) = fnsC a ++ fnsC b := by simp [fnsC]
theorem fnsC_at (L : List (Fn × Value)) (k : Nat) (x : Fn × Value) (h : L[k]? = some x) (j : Nat) (v : Value) (hj : (fnC x)[j]? = some v) : (fnsC L)[k * 4 + j]? = some v := by
  have hj4 : j < 4 := (List.getElem?_eq_some_iff.1 hj).1
  induction L generalizing k with
  | nil => simp at h
  | cons z l ih =>
    have e : fnsC (z :: l) = fnC z ++ fnsC l := rfl
    have hz : (fnC z).length = 4 := rfl
    rw [e]
    cases k with
    | zero =>
      simp at h
      subst h
      rw [List.getElem?_append_left (by omega), Nat.zero_mul, Nat.zero_add]
      exact hj
    | succ k =>
      rw [List.getElem?_append_right (by omega), show (k + 1) * 4 + j - (fnC z).length = k * 4 + j by omega]
      exact ih k (by simpa using h)
/-- A list of functions that is this call's own, and their codes. -/
structure OwnF (w : World) (base : Nat) (v : Value) (L : List (Fn × Value)) : Prop where
  row : w.ownsRow base 28 4 v L.length (fnsC L)
  codes : ∀ x ∈ L, OwnC w base x.2 x.1.code
theorem OwnF.more {w w' : World} {base : Nat} {v : Value} {L : List (Fn × Value)} (h : OwnF w base v L) (hk : Keeps None w w') : OwnF w' base v L := ⟨hk.own h.row (fun _ _ f => f), fun x hx => (h.codes x hx).more hk⟩
theorem OwnF.low {w : World} {base b2 : Nat} {v : Value} {L : List (Fn × Value)} (h : OwnF w base v L) (hb : b2 ≤ base) : OwnF w b2 v L := by
  refine ⟨⟨h.row.1, ?_⟩, fun x hx => (h.codes x hx).low hb⟩
  rcases h.row.2 with h0 | ⟨g', cap, cur, e, hg, r⟩
  · exact .inl h0
  · exact .inr ⟨g', cap, cur, e, by omega, r⟩
theorem OwnF.seen {w : World} {base : Nat} {v : Value} {L : List (Fn × Value)} (h : OwnF w base v L) : ∃ a c, v = .slice a L.length c ∧ SeenF w a L.length (L.map (·.1)) := by
  rcases h.row.2 with ⟨rfl, h0⟩ | ⟨g, cap, cur, rfl, _, hb, hn, _, hcs, htk⟩
  · exact ⟨none, 0, by rw [h0], ⟨by simp, fun hp => by omega⟩⟩
  · refine ⟨_, cap, rfl, ⟨by simp, fun _ => ⟨g, 0, rfl, blk_lt hb, fun k f hf => ?_⟩⟩⟩
    rw [List.getElem?_map] at hf
    obtain ⟨x, hx, rfl⟩ := Option.map_eq_some_iff.1 hf
    obtain ⟨ca, cc, e, hs⟩ := (h.codes x (List.mem_of_getElem? hx)).shape
    have hc : ∀ j u, (fnC x)[j]? = some u → w.cell? ⟨g, 0 + k * 4 + j, none⟩ = some u := fun j u hu => by
      have h1 := fnsC_at L k x hx j u hu
      rw [blk_cell hb, ← Array.getElem?_toList, Nat.zero_add]
      rw [← htk, List.getElem?_take] at h1
      split at h1
      · exact h1
      · cases h1
    exact ⟨ca, cc, ⟨hc 0 _ rfl, hc 1 _ rfl, hc 2 _ rfl, by rw [← e]; exact hc 3 _ rfl, hs⟩⟩
/-- 'append(funcs, f)'. -/
theorem fn_more (base : Nat) (g n cap : Nat) (L : List (Fn × Value)) (f : Fn) (cv : Value) (g0 : Nat) (ty : TypeId) (w : World) (hn : n = L.length) (h : OwnF w base (.slice (some ⟨g, 0, none⟩) n cap) L) (hcv : OwnC w base cv f.code)
    (hg0 : w.heap[g0]? = some (.cells #[.int .i64 f.params, .int .i64 f.regs, .int .i64 f.slots, cv] 28 (0, 0))) (hb : base ≤ w.heap.size) (hl : L.length ≤ 1000) :
    ∃ g' cap' w', (Builtin.append_ #[23, 23] ty #[.slice (some ⟨g, 0, none⟩) n cap, .slice (some ⟨g0, 0, none⟩) 1 1]).run Tryd.prog w = .ok (.slice (some ⟨g', 0, none⟩) (n + 1) cap') w' ∧
      OwnF w' base (.slice (some ⟨g', 0, none⟩) (n + 1) cap') (L ++ [(f, cv)]) ∧ Keeps (· = g) w w' ∧ (g' = g ∨ w.heap.size ≤ g') := by
  obtain ⟨i0, hi, hz0, hz1, hz2⟩ := info_parts Tryd.plFn
  obtain ⟨ca, cc, ecv, -⟩ := hcv.shape
  subst hn
  obtain ⟨v', w', hr, ho, hgr, hmv, -⟩ := run_append_moved (P := Tryd.prog) w base 23 ty 28 i0 _ 4 48 Tryd.underlying23 hi hz0 hz1 hz2 rfl (by decide) _ L.length (fnsC L) h.row
    ⟨g0, 0, none⟩ 1 1 (fnC (f, cv)) rfl (fun j u hu => by
      rw [show (⟨g0, 0, none⟩ : Addr).add j = ⟨g0, j, none⟩ by unfold Addr.add; split <;> simp_all, blk_cell hg0]
      simpa [fnC] using hu) (by
      intro u hu
      simp [fnC] at hu
      rcases hu with rfl | rfl | rfl | rfl
      · rfl
      · rfl
      · rfl
      · rw [ecv]; rfl) (by unfold maxLen; omega) (by omega) hb
  have hsh : ∃ g' cap', v' = .slice (some ⟨g', 0, none⟩) (L.length + 1) cap' := by
    rcases ho.2 with ⟨hv, h0⟩ | ⟨g', cap', _, e, _⟩
    · omega
    · exact ⟨g', cap', e⟩
  obtain ⟨g', cap', rfl⟩ := hsh
  have hkp : Keeps (· = g) w w' := (Keeps.refl _ w).andGrown hgr (fun k e => .inl (by simpa [Value.ownBlock] using e.symm))
  have hap : ∀ {cv : Value} {l : List Ins}, OwnC w base cv l → OwnC w' base cv l := fun hc => hc.kept hkp (fun q e hq => by
    subst hq
    exact absurd rfl (own_apart hc h.row (by decide) e))
  refine ⟨g', cap', w', hr, ⟨?_, fun x hx => ?_⟩, hkp, ?_⟩
  · rw [fnsC_append, List.length_append]
    have e1 : fnsC [(f, cv)] = fnC (f, cv) := by simp [fnsC]
    rw [e1]
    exact ho
  · rcases List.mem_append.1 hx with hx | hx
    · exact hap (h.codes x hx)
    · simp at hx
      subst hx
      exact hap hcv
  · rcases hmv with e | ⟨g2, e, h3⟩
    · simp [Value.ownBlock] at e
      exact .inl e
    · simp [Value.ownBlock] at e
      exact .inr (by omega)
theorem prog_end {Q : Ending → World → Prop} {a : Act} {w1 : World} {g : Nat} {x : Value} {fn : Func} (q : Tmp) (hfn : fn.results = #[.cell q 25]) (hb : w1.heap[g]? = some (.cells #[x] 25 (0, 0)))
    (ha : a.tmps.getD q undef = .pointer (some ⟨g, 0, none⟩)) (hd : a.defers = []) (v0 : Value) (hQ : ∀ w', Keeps (· = g) w1 w' → Q (.returned (.agg #[v0])) w') :
    bodyPost Tryd.prog fn Q .ret a (w1.setCell ⟨g, 0, none⟩ v0) := by
  have hb2 := blk_set (i := 0) hb v0
  refine bodyPost_ret (results_one (q := q) (ty := 25) hfn ha (run_loadVar_row _ g 25 25 _ _ _ hb2 Tryd.underlying25 rfl (by kernel_rfl))) hd (hQ _ ?_)
  exact Keeps.setCell (S := (· = g)) w1 (a := ⟨g, 0, none⟩) rfl _
set_option maxHeartbeats 4000000 in
theorem ahead_any (a : Option Addr) (n c : Nat) (fs : List Fn) (g0 c0 b : Nat) (L0 : List (Fn × Value)) (w0 w : World) (hS : SeenF w0 a n fs) (hk0 : Keeps None w0 w) (hg0 : w0.heap.size ≤ g0) (hL : OwnF w b (.slice (some ⟨g0, 0, none⟩) 2 c0) L0) (h2 : L0.length = 2) (hb : b ≤ w.heap.size)
    (hfs : ∀ f ∈ fs, f.code.length ≤ 1000 ∧ ∀ i ∈ f.code, i.kind = 5 → 0 ≤ i.b ∧ i.b ≤ 1000) (hn : n ≤ 100) :
    Calls Tryd.prog 43 #[.agg #[.slice a n c], .slice (some ⟨g0, 0, none⟩) 2 c0] w fun e w' => ∃ v L', e = .returned (.agg #[v]) ∧ OwnF w' b v L' ∧ L'.map (·.1) = L0.map (·.1) ++ fs.map shF ∧ Keeps (· = g0) w w' := by
  obtain ⟨B, hB⟩ : ∃ B, B = w.heap.size := ⟨_, rfl⟩
  have hgB : g0 < B := by
    have := own_lt hL.row (g := g0) rfl
    omega
  have b1 := heap_alloc_new w (.cells #[.slice a n c] 25)
  have q1 := Keeps.alloc None w (.cells #[.slice a n c] 25)
  obtain ⟨W1, hW1⟩ : ∃ W1, W1 = w.alloc (.cells #[.slice a n c] 25) := ⟨_, rfl⟩
  have s1 : W1.heap.size = B + 1 := by rw [hW1, hB]; simp
  rw [← hW1] at b1 q1
  rw [← hB] at b1
  have b2 := heap_alloc_new W1 (.cells #[.slice none 0 0] 25)
  have q2 := Keeps.alloc None W1 (.cells #[.slice none 0 0] 25)
  obtain ⟨W2, hW2⟩ : ∃ W2, W2 = W1.alloc (.cells #[.slice none 0 0] 25) := ⟨_, rfl⟩
  have s2 : W2.heap.size = B + 2 := by rw [hW2]; simp [s1]
  rw [← hW2] at b2 q2
  rw [s1] at b2
  have b1a := blk_kept b1 q2 (fun f => f)
  have k2 : Keeps None w W2 := q1.trans q2 (fun _ f _ => f)
  have hbh := behind_any W2
  rw [s2] at hbh
  unfold renV at hbh
  have HX : Hid (Keeps None w W2 ∧ W2.heap[B]? = some (.cells #[.slice a n c] 25 (0, 0)) ∧ W2.heap[B + 1]? = some (.cells #[.slice none 0 0] 25 (0, 0)) ∧ W2.heap.size = B + 2 ∧ B = w.heap.size ∧ g0 < B ∧ OwnF w b (.slice (some ⟨g0, 0, none⟩) 2 c0) L0 ∧ b ≤ w.heap.size ∧ Keeps None w0 w ∧ w0.heap.size ≤ g0 ∧ SeenF w0 a n fs ∧ n = fs.length ∧ L0.length = 2) := ⟨k2, b1a, b2, s2, hB, hgB, hL, hb, hk0, hg0, hS, hS.len, h2⟩
  have HC : Hid (∀ f ∈ fs, f.code.length ≤ 1000 ∧ ∀ i ∈ f.code, i.kind = 5 → 0 ≤ i.b ∧ i.b ≤ 1000) := hfs
  have i9 : (n : Int) ≤ 100 := by omega
  have HN : Hid (n ≤ 100) := hn
  clear b1 b2 b1a q1 q2 k2 s1 s2 hgB hL hb hk0 hg0 hS h2 hfs hn
  go_enter Tryd.func43, Tryd.ntmps43
  go_upto_region 1 with fail
  rw [← hW1, ← hW2, ← hB]
  clear hW1 hW2 hB
  go_wp2_with fail
  refine hbh.mono ?_
  rintro _ W3 ⟨rfl, hp3, k3⟩
  clear hbh
  have d3 : W3.cell? ⟨B, 0, none⟩ = some (.slice a n c) := (blk_cell (blk_kept HX.out.2.1 k3 (fun f => f)) 0).trans rfl
  have HY : Hid (Keeps None W2 W3 ∧ W3.cell? ⟨B + 2, 0, none⟩ = some (.int .i64 2)) := ⟨k3, hp3⟩
  clear k3 hp3
  go_upto_region 2 with fail
  go_wp2_with fail
  clear d3
  go_loopw [1, 7, 14] (fun s1 _ s14 wr => ∃ (k g cap m : Nat) (L : List (Fn × Value)), k ≤ n ∧ s14 = .int .i64 k ∧ s1 = .slice (some ⟨g, 0, none⟩) m cap ∧ m = L.length ∧ L.length = 2 + k ∧ OwnF wr b (.slice (some ⟨g, 0, none⟩) m cap) L ∧ L.map (·.1) = L0.map (·.1) ++ (fs.take k).map shF ∧ (g = g0 ∨ W3.heap.size ≤ g) ∧ Keeps (· = g0) W3 wr) (fun _ _ i _ => n - (intOf i).toNat)
  case atStart =>
    obtain ⟨X1, X2, X3, X4, X5, X6, X7, X8, X9, X10, X11, X12, X13⟩ := HX.out
    exact ⟨0, g0, c0, 2, L0, Nat.zero_le _, rfl, rfl, X13.symm, X13, (X7.more X1).more HY.out.1, by simp, .inl rfl, Keeps.refl _ _⟩
  case round =>
    obtain ⟨k, g, cap, m, L, hk, rfl, rfl, hm, hLl, hO, hmap, hg, hkp⟩ := hrel
    obtain ⟨X1, X2, X3, X4, X5, X6, X7, X8, X9, X10, X11, X12, X13⟩ := HX.out
    have s3 := HY.out.1.size
    have kr : Keeps None w0 wr := ((X9.trans X1 (fun _ f _ => f)).trans HY.out.1 (fun _ f _ => f)).trans hkp (fun i e hi => by omega)
    by_cases hkn : k < n
    · have i1 : (k : Int) < (n : Int) := by omega
      have i2 : (0 : Int) ≤ (k : Int) := by omega
      have i3 : (k : Int) ≤ 100 := by omega
      obtain ⟨bb, off, f, ca, cc, rfl, ef, hfa⟩ := (X11.more kr).at hkn
      have hcf := HC.out f (List.mem_of_getElem? ef)
      have y0 := hfa.params
      have y1 := hfa.regs
      have y2 := hfa.slots
      have y3 := hfa.code
      have hal := Keeps.alloc None wr (.cells #[.int .i64 f.params, .int .i64 f.regs, .int .i64 f.slots, .slice ca f.code.length cc] 28)
      have hp5 : wr.cell? ⟨B + 2, 0, none⟩ = some (.int .i64 2) := hkp.cell HY.out.2 (by intro e; have e' : B + 2 = g0 := e; omega)
      have hcall := copied_any f ca cc (B + 2) (wr.alloc (.cells #[.int .i64 f.params, .int .i64 f.regs, .int .i64 f.slots, .slice ca f.code.length cc] 28)) (hal.cell hp5 (fun f => f)) (hfa.seen.more hal) hcf.2 hcf.1
      unfold renV at hcall
      obtain ⟨par, regs, slots, code⟩ := f
      simp only at y0 y1 y2 y3 hcall hal
      obtain ⟨N, hN⟩ : ∃ N, N = code.length := ⟨_, rfl⟩
      rw [← hN] at y3 hcall hal
      have HO : Hid (OwnF wr b (.slice (some ⟨g, 0, none⟩) m cap) L ∧ m = L.length ∧ L.length = 2 + k ∧ L.map (·.1) = L0.map (·.1) ++ (fs.take k).map shF ∧ (g = g0 ∨ W3.heap.size ≤ g) ∧ Keeps (· = g0) W3 wr ∧ N = code.length ∧ fs[k]? = some ⟨par, regs, slots, code⟩ ∧ b ≤ wr.heap.size ∧ w.heap.size ≤ W3.heap.size ∧ Keeps None wr (wr.alloc (.cells #[.int .i64 par, .int .i64 regs, .int .i64 slots, .slice ca N cc] 28))) := ⟨hO, hm, hLl, hmap, hg, hkp, hN, ef, by have := hkp.size; omega, by omega, hal⟩
      clear hO hm hLl hmap hg hkp hN ef hal X1 X2 X3 X4 X5 X6 X7 X8 X9 X10 X11 X12 X13 kr hfa hcf hp5 s3
      go_wp2_with fail
      refine hcall.mono ?_
      rintro _ w5 ⟨gc, cx, rfl, ho5, k5⟩
      clear hcall
      obtain ⟨O1, O2, O3, O4, O5, O6, O7, O8, O9, O10, O11⟩ := HO.out
      have bN := heap_alloc_new w5 (.cells #[.int .i64 par, .int .i64 regs, .int .i64 slots, .slice (some ⟨gc, 0, none⟩) N cx] 28)
      have k6 := Keeps.alloc None w5 (.cells #[.int .i64 par, .int .i64 regs, .int .i64 slots, .slice (some ⟨gc, 0, none⟩) N cx] 28)
      have k56 : Keeps None wr (w5.alloc (.cells #[.int .i64 par, .int .i64 regs, .int .i64 slots, .slice (some ⟨gc, 0, none⟩) N cx] 28)) := (O11.trans k5 (fun _ f _ => f)).trans k6 (fun _ f _ => f)
      obtain ⟨g', cap', w7, hr, hO7, hk7, hg7⟩ := fn_more b g m cap L (shF ⟨par, regs, slots, code⟩) (.slice (some ⟨gc, 0, none⟩) N cx) w5.heap.size 23 (w5.alloc (.cells #[.int .i64 par, .int .i64 regs, .int .i64 slots, .slice (some ⟨gc, 0, none⟩) N cx] 28)) O2 (O1.more k56)
        ((ho5.low (by have := O11.size; omega)).more k6) bN (by have := k56.size; omega) (by omega)
      have hs6 := k56.size
      have HZ : Hid (OwnF w7 b (.slice (some ⟨g', 0, none⟩) (m + 1) cap') (L ++ [(shF ⟨par, regs, slots, code⟩, .slice (some ⟨gc, 0, none⟩) N cx)]) ∧ (L ++ [((shF ⟨par, regs, slots, code⟩ : Fn), Value.slice (some ⟨gc, 0, none⟩) N cx)]).map (·.1) = L0.map (·.1) ++ (fs.take (k + 1)).map shF ∧ (g' = g0 ∨ W3.heap.size ≤ g') ∧ Keeps (· = g0) W3 w7) := by
        refine ⟨hO7, ?_, ?_, ?_⟩
        · rw [List.map_append, O4, List.take_add_one, O8]
          simp
        · have := O6.size
          rcases hg7 with rfl | h7
          · exact O5
          · exact .inr (by omega)
        · exact (O6.trans k56 (fun _ f _ => f.elim)).trans hk7 (fun i e hi => by
            have e' : i = g := e
            rcases O5 with h | h
            · omega
            · omega)
      have HM : Hid (m = L.length ∧ L.length = 2 + k) := ⟨O2, O3⟩
      clear O1 O2 O3 O4 O5 O6 O7 O8 O9 O10 O11 bN k6 k56 hO7 hk7 hg7 hs6 ho5 k5
      go_wp2_with (at_builtin; refine wpList_append_run rfl (.tmp 18) (.tmp 22) 23 23 rfl rfl rfl hr ?_)
      exact ⟨⟨k + 1, g', cap', m + 1, _, by omega, by simp, rfl, by simp [← HM.out.1], by simp [HM.out.2]; omega, HZ.out.1, HZ.out.2.1, HZ.out.2.2.1, HZ.out.2.2.2⟩, by simp [intOf]; omega⟩
    · have i1 : ¬ ((k : Int) < (n : Int)) := by omega
      obtain rfl : k = n := by omega
      rw [List.take_of_length_le (by omega)] at hmap
      have bR := blk_kept (blk_kept X3 HY.out.1 (fun f => f)) hkp (by omega)
      have HO : Hid (OwnF wr b (.slice (some ⟨g, 0, none⟩) m cap) L ∧ L.map (·.1) = L0.map (·.1) ++ fs.map shF ∧ Keeps (· = g0) w wr ∧ wr.heap[B + 1]? = some (.cells #[.slice none 0 0] 25 (0, 0)) ∧ B = w.heap.size) := ⟨hO, hmap, (X1.trans HY.out.1 (fun _ f _ => f)).mono (fun _ f _ => f.elim) |>.trans hkp (fun _ e _ => e), bR, X5⟩
      clear hO hm hLl hmap hg hkp X1 X2 X3 X4 X5 X6 X7 X8 X9 X10 X11 X12 X13 kr s3 bR
      go_wp2_with fail
      refine (asm_program _ _ _ _).mono ?_
      rintro _ w5 ⟨rfl, k5⟩
      have bR := blk_kept HO.out.2.2.2.1 k5 (fun f => f)
      have z0 : w5.cell? ⟨B + 1, 0, none⟩ = some (.slice none 0 0) := (blk_cell bR 0).trans rfl
      have z1 := blk_free bR 0
      have HP : Hid (OwnF w5 b (.slice (some ⟨g, 0, none⟩) m cap) L ∧ Keeps (· = g0) w w5 ∧ w5.heap[B + 1]? = some (.cells #[.slice none 0 0] 25 (0, 0))) := ⟨HO.out.1.more k5, HO.out.2.2.1.trans k5 (fun _ f _ => f.elim), bR⟩
      clear k5 bR
      go_wp2
      refine prog_end 4 rfl HP.out.2.2 rfl rfl _ (fun w' hw' => ?_)
      obtain ⟨P1, P2, P3⟩ := HP.out
      have hB := HO.out.2.2.2.2
      refine ⟨_, L, rfl, ?_, HO.out.2.1, P2.trans hw' (fun i e hi => ?_)⟩
      · refine ⟨hw'.own P1.row (fun q e hq => ?_), fun x hx => (P1.codes x hx).kept hw' (fun q e hq => ?_)⟩
        · subst hq
          have := own_type P1.row e P3
          exact absurd this (by decide)
        · subst hq
          have := own_type (P1.codes x hx) e P3
          exact absurd this (by decide)
      · have e' : i = B + 1 := e
        omega
end Go.Proofs.YtdpljbdnbmdokaaDoor
