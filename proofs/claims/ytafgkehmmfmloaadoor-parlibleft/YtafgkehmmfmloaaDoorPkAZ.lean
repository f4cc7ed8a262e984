import Derived.Test.YtafgkehmmfmloaaDoorPkAY
import Derived.Test.YtafgkehmmfmloaaDoorPkAP
import Derived.Test.YtafgkehmmfmloaaDoorPkAX
/-! parlib.Reduce. -/
namespace Go.Proofs.YtafgkehmmfmloaaDoor
set_option linter.unusedVariables false
set_option maxRecDepth 20000
open Go.RowKit Go.HeapKit Go.PlainOps

set_option maxHeartbeats 2000000 in
theorem wrongComb_any (a : Option Addr) (n c : Nat) (l : List Fn) (k : Int) (w : World) (hS : SeenF w a n l) :
    Calls Tryd.prog 20 #[.agg #[.slice a n c], .int .i64 k] w fun e w' => e = .returned (.int .i64 (combE l k)) ∧ Keeps None w w' := by
  obtain ⟨W, B, hW, hB, bP, hal, d0, sW⟩ := box_prog w a n c
  have htk := takes_any a n c l k 2 W (hS.more hal)
  have HX : Hid (Keeps None w W) := hal
  unfold combE
  generalize takesV l k 2 = Q at *
  clear hS hal bP sW
  cases Q
  all_goals (
    go_enter Tryd.func20, Tryd.ntmps20
    go_upto_region 1 with fail
    rw [← hW, ← hB]
    clear hW hB
    go_wp2_with fail
    refine htk.mono ?_
    rintro _ w3 ⟨rfl, k3⟩
    have HK : Hid (Keeps None w w3) := HX.out.trans k3 (fun _ f _ => f)
    clear htk k3 d0
    go_wp2_with fail
    refine (unless_any _ _ _).mono ?_
    rintro _ w5 ⟨rfl, k5⟩
    have HK5 : Hid (Keeps None w w5) := HK.out.trans k5 (fun _ f _ => f)
    clear k5
    go_wp2
    go_ret
    exact ⟨rfl, HK5.out⟩)
def redE (l : List Fn) (b c : Int) : Int := firstV [baseE l, bodyE l b, combE l c, roomE l]
theorem firstV_all {l : List Int} (h : firstV l = 0) : ∀ (k : Nat) x, l[k]? = some x → x = 0
  | k, x, hx => by
    by_cases h0 : x = 0
    · exact h0
    · exact absurd ((firstV_next (fun j y hj hy => firstV_all h j y hy) hx h0).symm.trans h) h0
theorem redE_zero {l : List Fn} {b c : Int} (h : redE l b c = 0) : (checkV l).1 = 0 ∧ askV l = false ∧ takesV l b 1 = true ∧ takesV l c 2 = true ∧ l.length ≤ 28 := by
  have h1 := firstV_all h 0 _ rfl
  have h2 := firstV_all h 1 _ rfl
  have h3 := firstV_all h 2 _ rfl
  have h4 := firstV_all h 3 _ rfl
  unfold baseE at h1
  unfold bodyE at h2
  unfold combE at h3
  unfold roomE at h4
  by_cases q1 : (checkV l).1 = 0 ∧ askV l = false
  · by_cases q2 : takesV l b 1 = true
    · by_cases q3 : takesV l c 2 = true
      · by_cases q4 : l.length ≤ 28
        · exact ⟨q1.1, q1.2, q2, q3, q4⟩
        · rw [if_neg q4] at h4; omega
      · rw [if_neg q3] at h3; omega
    · rw [if_neg q2] at h2; omega
  · rw [if_neg q1] at h1; omega
/-- What Reduce answers. -/
def RedPost (l : List Fn) (b c u : Int) (w : World) (e : Ending) (w' : World) : Prop :=
  Keeps None w w' ∧ ((redE l b c ≠ 0 ∧ e = .returned (.tuple #[.agg #[.slice none 0 0], .int .i64 (redE l b c)])) ∨
    (redE l b c = 0 ∧ ∃ v L', e = .returned (.tuple #[.agg #[v], .int .i64 0]) ∧ OwnF w' w.heap.size v L' ∧ L'.map (·.1) = redP l b c u))
set_option maxHeartbeats 4000000 in
theorem reduce_any (a : Option Addr) (n c : Nat) (l : List Fn) (bd cb u : Int) (w : World) (hT : Tabs w) (hS : SeenF w a n l) (hok : ∀ f ∈ l, f.Ok) :
    Calls Tryd.prog 11 #[.agg #[.slice a n c], .int .i64 bd, .int .i64 cb, .int .i64 u] w (RedPost l bd cb u w) := by
  obtain ⟨W1, B, hW1, hB, bP, q1, d0, s1⟩ := box_prog w a n c
  have b2 := heap_alloc_new W1 (.cells #[.slice none 0 0] 26)
  have q2 := Keeps.alloc None W1 (.cells #[.slice none 0 0] 26)
  obtain ⟨W2, hW2⟩ : ∃ W2, W2 = W1.alloc (.cells #[.slice none 0 0] 26) := ⟨_, rfl⟩
  rw [← hW2] at b2 q2
  rw [s1] at b2
  have b1a := blk_kept bP q2 (fun f => f)
  have k2 : Keeps None w W2 := q1.trans q2 (fun _ f _ => f)
  obtain ⟨E1, hE1⟩ : ∃ E, E = baseE l := ⟨_, rfl⟩
  obtain ⟨E2, hE2⟩ : ∃ E, E = bodyE l bd := ⟨_, rfl⟩
  obtain ⟨E3, hE3⟩ : ∃ E, E = combE l cb := ⟨_, rfl⟩
  obtain ⟨E4, hE4⟩ : ∃ E, E = roomE l := ⟨_, rfl⟩
  obtain ⟨E, hE⟩ : ∃ E, E = firstV [E1, E2, E3, E4] := ⟨_, rfl⟩
  have eE : E = redE l bd cb := by rw [hE, hE1, hE2, hE3, hE4]; rfl
  have HX : Hid (Keeps None w W2 ∧ W2.heap[B]? = some (.cells #[.slice a n c] 26 (0, 0)) ∧ W2.heap[B + 1]? = some (.cells #[.slice none 0 0] 26 (0, 0)) ∧ B = w.heap.size ∧ SeenF W2 a n l ∧ Tabs W2 ∧ (∀ f ∈ l, f.Ok) ∧ E = redE l bd cb ∧ n = l.length) := ⟨k2, b1a, b2, hB, hS.more k2, hT.more k2, hok, eE, hS.len⟩
  have hA1 : ∀ w', Keeps None W2 w' → Calls Tryd.prog 18 #[.agg #[.slice a n c]] w' fun e w'' => e = .returned (.int .i64 E1) ∧ Keeps None w' w'' := fun w' hk => by
    rw [hE1]; exact wrongBase_any a n c l w' ((hT.more k2).more hk) ((hS.more k2).more hk) hok
  have hA2 : ∀ w', Keeps None W2 w' → Calls Tryd.prog 19 #[.agg #[.slice a n c], .int .i64 bd] w' fun e w'' => e = .returned (.int .i64 E2) ∧ Keeps None w' w'' := fun w' hk => by
    rw [hE2]; exact wrongBody_any a n c l bd w' ((hS.more k2).more hk)
  have hA3 : ∀ w', Keeps None W2 w' → Calls Tryd.prog 20 #[.agg #[.slice a n c], .int .i64 cb] w' fun e w'' => e = .returned (.int .i64 E3) ∧ Keeps None w' w'' := fun w' hk => by
    rw [hE3]; exact wrongComb_any a n c l cb w' ((hS.more k2).more hk)
  have hA4 : ∀ w', Keeps None W2 w' → Calls Tryd.prog 21 #[.agg #[.slice a n c]] w' fun e w'' => e = .returned (.int .i64 E4) ∧ Keeps None w' w'' := fun w' hk => by
    rw [hE4]; exact wrongRoom_any a n c l w' ((hS.more k2).more hk)
  have H1 : Hid _ := hA1
  have H2 : Hid _ := hA2
  have H3 : Hid _ := hA3
  have H4 : Hid _ := hA4
  have HE : Hid (E = firstV [E1, E2, E3, E4]) := hE
  clear hA1 hA2 hA3 hA4 hE hE1 hE2 hE3 hE4 eE b1a b2 bP q1 q2 k2 s1 hS hT hok d0
  go_enter Tryd.func11, Tryd.ntmps11
  go_upto_region 1 with fail
  rw [← hW1, ← hW2, ← hB]
  clear hW1 hW2 hB
  have r00 : W2.cell? ⟨B, 0, none⟩ = some (.slice a n c) := (blk_cell HX.out.2.1 0).trans rfl
  have r0 : W2.drew.cell? ⟨B, 0, none⟩ = some (.slice a n c) := (Keeps.drew None W2).cell r00 (fun f => f)
  go_cut [10] (fun s6 wc => s6 = .int .i64 E ∧ Keeps None W2 wc)
  case first =>
    refine wp_region_held_drew (S := (fun w' => w'.cell? ⟨B, 0, none⟩ = some (.slice a n c))) (by kernel_rfl) ?_ (fun hHeld => ?_)
    · (try dsimp only); first | exact r12 | exact r10 | exact r9 | exact r7 | exact r4 | exact r1 | exact r0
    refine wpAnyH_take (i := 0) (oi := { dst := some 11, op := Op.load 26 (Operand.tmp 4), type := 26, pos := "parlib.go:19", after := #[], guard := none }) (v := ?_) rfl (by kernel_rfl) (by kernel_rfl) (by kernel_rfl) (fun _ _ _ h => h) (Or.inl ⟨by rfl, ?_⟩) (by assumption) ?_
    rotate_left
    · (intro wz hSw; (try dsimp only at hSw); go_simp; try with_reducible rfl)
    simp only [Act.put, List.setIfInBounds_toArray, List.set_cons_zero, List.set_cons_succ]
    refine wpAnyH_take (i := 2) (oi := { dst := some 13, op := Op.load 26 (Operand.tmp 4), type := 26, pos := "parlib.go:19", after := #[], guard := none }) (v := ?_) rfl (by kernel_rfl) (by kernel_rfl) (by kernel_rfl) (fun _ _ _ h => h) (Or.inl ⟨by rfl, ?_⟩) (by assumption) ?_
    rotate_left
    · (intro wz hSw; (try dsimp only at hSw); go_simp; try with_reducible rfl)
    simp only [Act.put, List.setIfInBounds_toArray, List.set_cons_zero, List.set_cons_succ]
    refine wpAnyH_take (i := 3) (oi := { dst := some 14, op := Op.move (Operand.tmp 1), type := 3, pos := "parlib.go:19", after := #[], guard := none }) (v := ?_) rfl (by kernel_rfl) (by kernel_rfl) (by kernel_rfl) (fun _ _ _ h => h) (Or.inl ⟨by rfl, ?_⟩) (by assumption) ?_
    rotate_left
    · (intro wz hSw; (try dsimp only at hSw); go_simp; try with_reducible rfl)
    simp only [Act.put, List.setIfInBounds_toArray, List.set_cons_zero, List.set_cons_succ]
    refine wpAnyH_take (i := 5) (oi := { dst := some 16, op := Op.load 26 (Operand.tmp 4), type := 26, pos := "parlib.go:19", after := #[], guard := none }) (v := ?_) rfl (by kernel_rfl) (by kernel_rfl) (by kernel_rfl) (fun _ _ _ h => h) (Or.inl ⟨by rfl, ?_⟩) (by assumption) ?_
    rotate_left
    · (intro wz hSw; (try dsimp only at hSw); go_simp; try with_reducible rfl)
    simp only [Act.put, List.setIfInBounds_toArray, List.set_cons_zero, List.set_cons_succ]
    refine wpAnyH_take (i := 6) (oi := { dst := some 17, op := Op.move (Operand.tmp 2), type := 3, pos := "parlib.go:19", after := #[], guard := none }) (v := ?_) rfl (by kernel_rfl) (by kernel_rfl) (by kernel_rfl) (fun _ _ _ h => h) (Or.inl ⟨by rfl, ?_⟩) (by assumption) ?_
    rotate_left
    · (intro wz hSw; (try dsimp only at hSw); go_simp; try with_reducible rfl)
    simp only [Act.put, List.setIfInBounds_toArray, List.set_cons_zero, List.set_cons_succ]
    refine wpAnyH_take (i := 8) (oi := { dst := some 19, op := Op.load 26 (Operand.tmp 4), type := 26, pos := "parlib.go:19", after := #[], guard := none }) (v := ?_) rfl (by kernel_rfl) (by kernel_rfl) (by kernel_rfl) (fun _ _ _ h => h) (Or.inl ⟨by rfl, ?_⟩) (by assumption) ?_
    rotate_left
    · (intro wz hSw; (try dsimp only at hSw); go_simp; try with_reducible rfl)
    simp only [Act.put, List.setIfInBounds_toArray, List.set_cons_zero, List.set_cons_succ]
    refine wpAnyH_ready (rs := [1]) (by kernel_rfl) (by simp) ?_
    refine AllReadyH.cons (o := { dst := some 12, op := Op.call { callee := Callee.value (Operand.func 18), args := #[Operand.tmp 11], argTypes := #[26] }, type := 33, pos := "parlib.go:19", after := #[{ on := 0, ground := Ground.data }], guard := none }) rfl (fun K hK => ?_) ?_
    · go_simp
      refine (H1.out _ (Keeps.drew None W2)).mono ?_
      rintro _ w1 ⟨rfl, k1⟩
      have j1 : Keeps None W2 w1 := (Keeps.drew None W2).trans k1 (fun _ f _ => f)
      have r1 := j1.cell r00 (fun f => f)
      refine hK.out _ _ ?_ (fun hHeld2 => ?_)
      · (try dsimp only); first | exact r12 | exact r10 | exact r9 | exact r7 | exact r4 | exact r1 | exact r0
      clear hK K
      try simp only [Act.put, List.setIfInBounds_toArray, List.set_cons_zero, List.set_cons_succ]
      refine wpAnyH_ready (rs := [4]) (by kernel_rfl) (by simp) ?_
      refine AllReadyH.cons (o := { dst := some 15, op := Op.call { callee := Callee.value (Operand.func 19), args := #[Operand.tmp 13, Operand.tmp 14], argTypes := #[26, 3] }, type := 33, pos := "parlib.go:19", after := #[{ on := 2, ground := Ground.data }, { on := 3, ground := Ground.data }, { on := 1, ground := Ground.chain }], guard := none }) rfl (fun K hK => ?_) ?_
      · go_simp
        refine (H2.out _ j1).mono ?_
        rintro _ w4 ⟨rfl, k4⟩
        have j4 : Keeps None W2 w4 := j1.trans k4 (fun _ f _ => f)
        have r4 := j4.cell r00 (fun f => f)
        refine hK.out _ _ ?_ (fun hHeld2 => ?_)
        · (try dsimp only); first | exact r12 | exact r10 | exact r9 | exact r7 | exact r4 | exact r1 | exact r0
        clear hK K
        try simp only [Act.put, List.setIfInBounds_toArray, List.set_cons_zero, List.set_cons_succ]
        refine wpAnyH_ready (rs := [7]) (by kernel_rfl) (by simp) ?_
        refine AllReadyH.cons (o := { dst := some 18, op := Op.call { callee := Callee.value (Operand.func 20), args := #[Operand.tmp 16, Operand.tmp 17], argTypes := #[26, 3] }, type := 33, pos := "parlib.go:19", after := #[{ on := 5, ground := Ground.data }, { on := 6, ground := Ground.data }, { on := 4, ground := Ground.chain }], guard := none }) rfl (fun K hK => ?_) ?_
        · go_simp
          refine (H3.out _ j4).mono ?_
          rintro _ w7 ⟨rfl, k7⟩
          have j7 : Keeps None W2 w7 := j4.trans k7 (fun _ f _ => f)
          have r7 := j7.cell r00 (fun f => f)
          refine hK.out _ _ ?_ (fun hHeld2 => ?_)
          · (try dsimp only); first | exact r12 | exact r10 | exact r9 | exact r7 | exact r4 | exact r1 | exact r0
          clear hK K
          try simp only [Act.put, List.setIfInBounds_toArray, List.set_cons_zero, List.set_cons_succ]
          refine wpAnyH_ready (rs := [9]) (by kernel_rfl) (by simp) ?_
          refine AllReadyH.cons (o := { dst := some 20, op := Op.call { callee := Callee.value (Operand.func 21), args := #[Operand.tmp 19], argTypes := #[26] }, type := 33, pos := "parlib.go:19", after := #[{ on := 8, ground := Ground.data }, { on := 7, ground := Ground.chain }], guard := none }) rfl (fun K hK => ?_) ?_
          · go_simp
            refine (H4.out _ j7).mono ?_
            rintro _ w9 ⟨rfl, k9⟩
            have j9 : Keeps None W2 w9 := j7.trans k9 (fun _ f _ => f)
            have r9 := j9.cell r00 (fun f => f)
            have j10 := j9.andAlloc (.cells #[.int .i64 E1, .int .i64 E2, .int .i64 E3, .int .i64 E4] 33)
            have r10 := j10.cell r00 (fun f => f)
            refine hK.out _ _ ?_ (fun hHeld2 => ?_)
            · (try dsimp only); first | exact r12 | exact r10 | exact r9 | exact r7 | exact r4 | exact r1 | exact r0
            clear hK K
            try simp only [Act.put, List.setIfInBounds_toArray, List.set_cons_zero, List.set_cons_succ]
            refine wpAnyH_ready (rs := [10]) (by kernel_rfl) (by simp) ?_
            refine AllReadyH.cons (o := { dst := some 21, op := Op.buildSlice 81 4 #[(0, Operand.tmp 12), (1, Operand.tmp 15), (2, Operand.tmp 18), (3, Operand.tmp 20)], type := 81, pos := "parlib.go:19", after := #[{ on := 1, ground := Ground.data }, { on := 4, ground := Ground.data }, { on := 7, ground := Ground.data }, { on := 9, ground := Ground.data }], guard := none }) rfl (fun K hK => ?_) ?_
            · go_simp
              refine hK.out _ _ ?_ (fun hHeld2 => ?_)
              · (try dsimp only); first | exact r12 | exact r10 | exact r9 | exact r7 | exact r4 | exact r1 | exact r0
              clear hK K
              try simp only [Act.put, List.setIfInBounds_toArray, List.set_cons_zero, List.set_cons_succ]
              refine wpAnyH_ready (rs := [11]) (by kernel_rfl) (by simp) ?_
              refine AllReadyH.cons (o := { dst := some 22, op := Op.call { callee := Callee.value (Operand.func 17), args := #[Operand.tmp 21], argTypes := #[81] }, type := 33, pos := "parlib.go:19", after := #[{ on := 10, ground := Ground.data }, { on := 9, ground := Ground.chain }], guard := none }) rfl (fun K hK => ?_) ?_
              · go_simp
                refine (first_any w9.heap.size 4 4 [E1, E2, E3, E4] _ rfl (by simp) (fun k x hx => ?_)).mono ?_
                · rw [blk_cell (heap_alloc_new w9 _)]
                  match k, hx with
                  | 0, hx => simp at hx; subst hx; rfl
                  | 1, hx => simp at hx; subst hx; rfl
                  | 2, hx => simp at hx; subst hx; rfl
                  | 3, hx => simp at hx; subst hx; rfl
                  | k + 4, hx => simp at hx
                rw [← HE.out]
                rintro _ w12 ⟨rfl, k12⟩
                have j12 : Keeps None W2 w12 := j10.trans k12 (fun _ f _ => f)
                have r12 := j12.cell r00 (fun f => f)
                refine hK.out _ _ ?_ (fun hHeld2 => ?_)
                · (try dsimp only); first | exact r12 | exact r10 | exact r9 | exact r7 | exact r4 | exact r1 | exact r0
                clear hK K
                try simp only [Act.put, List.setIfInBounds_toArray, List.set_cons_zero, List.set_cons_succ]
                refine wpAnyH_take (i := 12) (oi := { dst := some 10, op := Op.assign (Operand.tmp 22), type := 33, pos := "parlib.go:19", after := #[{ on := 11, ground := Ground.data }, { on := 11, ground := Ground.chain }, { on := 0, ground := Ground.phase }, { on := 1, ground := Ground.phase }, { on := 2, ground := Ground.phase }, { on := 3, ground := Ground.phase }, { on := 4, ground := Ground.phase }, { on := 5, ground := Ground.phase }, { on := 6, ground := Ground.phase }, { on := 7, ground := Ground.phase }, { on := 8, ground := Ground.phase }, { on := 9, ground := Ground.phase }, { on := 10, ground := Ground.phase }, { on := 11, ground := Ground.phase }], guard := none }) (v := ?_) rfl (by kernel_rfl) (by kernel_rfl) (by kernel_rfl) (fun _ _ _ h => h) (Or.inl ⟨by rfl, ?_⟩) (by assumption) ?_
                rotate_left
                · (intro wz hSw; (try dsimp only at hSw); go_simp; try with_reducible rfl)
                simp only [Act.put, List.setIfInBounds_toArray, List.set_cons_zero, List.set_cons_succ]
                refine wpAnyH_done (by kernel_rfl) ?_ _
                go_wp2_with fail
                go_meet
                exact ⟨rfl, j12⟩
              exact AllReadyH.nil
            exact AllReadyH.nil
          exact AllReadyH.nil
        exact AllReadyH.nil
      exact AllReadyH.nil
    exact AllReadyH.nil
  case rest =>
    obtain ⟨rfl, jc⟩ := hcut
    obtain ⟨X1, X2, X3, X4, X5, X6, X7, X8, X9⟩ := HX.out
    have bR := blk_kept X3 jc (fun f => f)
    have z0 : wc.cell? ⟨B + 1, 0, none⟩ = some (.slice none 0 0) := (blk_cell bR 0).trans rfl
    have z1 := blk_free bR 0
    have hKw : Keeps None w wc := X1.trans jc (fun _ f _ => f)
    clear r00 r0
    by_cases h0 : E = 0
    · have hz := redE_zero (X8.symm.trans h0)
      obtain ⟨y1, y2, y3, y5, y4⟩ := hz
      obtain ⟨v1, v2, v3⟩ := check_valid (check_zero y1)
      unfold takesV at y3 y5
      simp only [Bool.and_eq_true, decide_eq_true_eq] at y3 y5
      have hcall := foldAll_any a n c l bd cb u wc (X5.more jc) (by omega) (by omega) (fun f hf => ⟨by have := (valid_bounds (v3 f hf)).2.2.2.2; omega, fun i hi h5 => by
        obtain ⟨q, hq, e⟩ := List.getElem_of_mem hi
        have := (step_ok (v3 f hf) (at_ := q) (i := i) (by rw [← e]; simp)).fn h5
        omega⟩) (by omega)
      have d0 : wc.cell? ⟨B, 0, none⟩ = some (.slice a n c) := (blk_cell (blk_kept X2 jc (fun f => f)) 0).trans rfl
      have t0 : (E != 0) = false := by simp [h0]
      have HR : Hid (Keeps None w wc ∧ wc.heap[B + 1]? = some (.cells #[.slice none 0 0] 26 (0, 0)) ∧ redE l bd cb = 0 ∧ B = w.heap.size) := ⟨hKw, bR, X8.symm.trans h0, X4⟩
      clear X1 X2 X3 X4 X5 X6 X7 X8 X9 y1 y2 y3 y5 y4 v1 v2 v3 h0 bR hKw z0 z1 jc
      go_wp2_with fail
      refine hcall.mono ?_
      rintro _ w3 ⟨v3, L', rfl, oL', hm', k3⟩
      obtain ⟨a3, c3, rfl, -⟩ := oL'.seen
      have bR := blk_kept HR.out.2.1 k3 (fun f => f)
      have z0 : w3.cell? ⟨B + 1, 0, none⟩ = some (.slice none 0 0) := (blk_cell bR 0).trans rfl
      have z1 := blk_free bR 0
      have HF : Hid (OwnF w3 w.heap.size (.slice a3 L'.length c3) L' ∧ L'.map (·.1) = redP l bd cb u ∧ Keeps None w w3 ∧ w3.heap[B + 1]? = some (.cells #[.slice none 0 0] 26 (0, 0))) := ⟨oL'.low (HR.out.1.size), hm', HR.out.1.trans k3 (fun _ f _ => f), bR⟩
      clear oL' hm' k3 bR hcall d0
      go_wp2
      obtain ⟨P1, P2, P3, P4⟩ := HF.out
      have hw' := Keeps.setCell (S := (· = B + 1)) w3 (a := ⟨B + 1, 0, none⟩) rfl (.slice a3 L'.length c3)
      refine prog_end2 8 9 rfl (blk_set (i := 0) P4 _) rfl rfl rfl ?_
      refine ⟨P3.trans hw' (fun i e hi => ?_), .inr ⟨HR.out.2.2.1, _, L', rfl, ?_, P2⟩⟩
      · have e' : i = B + 1 := e
        have := HR.out.2.2.2
        omega
      · refine ⟨hw'.own P1.row (fun q e hq => ?_), fun x hx => (P1.codes x hx).kept hw' (fun q e hq => ?_)⟩
        · subst hq
          have := own_type P1.row e P4
          exact absurd this (by decide)
        · subst hq
          have := own_type (P1.codes x hx) e P4
          exact absurd this (by decide)
    · have t0 : (E != 0) = true := by simp [h0]
      have HR : Hid (Keeps None w wc ∧ wc.heap[B + 1]? = some (.cells #[.slice none 0 0] 26 (0, 0)) ∧ E = redE l bd cb ∧ E ≠ 0) := ⟨hKw, bR, X8, h0⟩
      have hB2 := X4
      clear X1 X2 X3 X4 X5 X6 X7 X8 X9 h0 bR hKw jc
      have HB2 : Hid (B = w.heap.size) := hB2
      clear hB2
      go_wp2
      refine prog_end2 8 9 rfl (blk_set (i := 0) HR.out.2.1 _) rfl rfl rfl ?_
      exact ⟨HR.out.1.andSet (.inr (by have := HB2.out; simp; omega)) _, .inl ⟨by rw [← HR.out.2.2.1]; exact HR.out.2.2.2, by rw [← HR.out.2.2.1]; rfl⟩⟩
end Go.Proofs.YtafgkehmmfmloaaDoor
/-! parlib.Fold: one call. -/
namespace Go.Proofs.YtafgkehmmfmloaaDoor
set_option linter.unusedVariables false
set_option maxRecDepth 20000
open Go.RowKit Go.HeapKit Go.PlainOps

/-- A fold that is being worked out. -/
def IsFd (w : World) (X : Nat) (sb sc : Value) (u G F : Int) : Prop := w.heap[X]? = some (.cells #[sb, sc, .int .i64 u, .int .i64 G, .int .i64 F] 75 (0, 0))
set_option maxHeartbeats 4000000 in
theorem fcall_any (X : Nat) (sb sc : Value) (u G F : Int) (a : Option Addr) (n c : Nat) (l : List Fn) (aa : Option Addr) (an ac : Nat) (zs : List Int) (V Wk T dd sp : Int) (w : World) (hT : Tabs w) (hX : IsFd w X sb sc u G F) (hS : SeenF w a n l) (hok : ∀ f ∈ l, f.Ok) (hZ : SeenA w aa an zs) (hZ2 : an ≤ 9223372036854775807) (hF : okI F) (hW : okI (F - Wk)) (he : evalV l zs F = (⟨V, Wk, T, dd, sp⟩, 0)) :
    Calls Tryd.prog 58 #[.pointer (some ⟨X, 0, none⟩), .agg #[.slice a n c], .slice aa an ac] w fun e w' => e = .returned (.tuple #[.int .i64 V, .int .i64 0]) ∧ IsFd w' X sb sc u G (F - Wk) ∧ Keeps (· = X) w w' := by
  obtain ⟨W, B, hW1, hB, bP, hal, d0, sW⟩ := box_prog w a n c
  unfold IsFd at hX
  have hXB : X < B := by have := blk_lt hX; omega
  have bX := blk_kept hX hal (fun f => f)
  have hev : ∀ w', Keeps None W w' → Calls Tryd.prog 12 #[.agg #[.slice a n c], .slice aa an ac, .int .i64 F] w' fun e w'' => e = .returned (.tuple #[.agg #[.int .i64 V, .int .i64 Wk, .int .i64 T, .int .i64 dd, .int .i64 sp], .int .i64 0]) ∧ Keeps None w' w'' := fun w' hk => by
    have := eval_any a n c l aa an ac zs F w' ((hT.more hal).more hk) ((hS.more hal).more hk) hok ((hZ.more hal).more hk) hZ2 hF
    rw [he] at this
    exact this
  have HEV : Hid (∀ w', Keeps None W w' → Calls Tryd.prog 12 #[.agg #[.slice a n c], .slice aa an ac, .int .i64 F] w' fun e w'' => e = .returned (.tuple #[.agg #[.int .i64 V, .int .i64 Wk, .int .i64 T, .int .i64 dd, .int .i64 sp], .int .i64 0]) ∧ Keeps None w' w'') := hev
  obtain ⟨F2, hF2⟩ : ∃ F2, F2 = F - Wk := ⟨_, rfl⟩
  have iF : IntKind.i64.wrap (F - Wk) = F2 := by rw [hF2, IntKind.wrap_i64]; unfold okI at hW; omega
  rw [← hF2]
  have HX : Hid (Keeps None w W ∧ W.heap[X]? = some (.cells #[sb, sc, .int .i64 u, .int .i64 G, .int .i64 F] 75 (0, 0)) ∧ W.heap[B]? = some (.cells #[.slice a n c] 26 (0, 0)) ∧ X < B ∧ B = w.heap.size) := ⟨hal, bX, bP, hXB, hB⟩
  clear hev hF2 hT hX hS hok hZ hF hW he bX bP hal hXB sW
  go_enter Tryd.func58, Tryd.ntmps58
  go_upto_region 1 with fail
  rw [← hW1, ← hB]
  clear hW1 hB
  have f00 : W.cell? ⟨X, 4, none⟩ = some (.int .i64 F) := (blk_cell HX.out.2.1 4).trans rfl
  have f0 : W.drew.cell? ⟨X, 4, none⟩ = some (.int .i64 F) := (Keeps.drew None W).cell f00 (fun f => f)
  have d00 : W.drew.cell? ⟨B, 0, none⟩ = some (.slice a n c) := (Keeps.drew None W).cell d0 (fun f => f)
  go_cut [8, 9] (fun s8 s9 wc => ∃ H, s8 = .pointer (some ⟨H, 0, none⟩) ∧ s9 = .int .i64 0 ∧ wc.heap[H]? = some (.cells #[.int .i64 V, .int .i64 Wk, .int .i64 T, .int .i64 dd, .int .i64 sp] 42 (0, 0)) ∧ w.heap.size ≤ H ∧ Keeps None W wc)
  case first =>
    refine wp_region_held_drew (S := (fun w' => w'.cell? ⟨B, 0, none⟩ = some (.slice a n c) ∧ w'.cell? ⟨X, 4, none⟩ = some (.int .i64 F))) (by kernel_rfl) ?_ (fun hHeld => ?_)
    · (try dsimp only); first | with_reducible exact ⟨d00, f0⟩ | with_reducible exact ⟨rB, rX⟩ | with_reducible exact ⟨j2.cell d0 (fun f => f), j2.cell f00 (fun f => f)⟩ | with_reducible exact ⟨(((Keeps.refl None W).andAlloc _).andDrew).cell d0 (fun f => f), (((Keeps.refl None W).andAlloc _).andDrew).cell f00 (fun f => f)⟩ | with_reducible exact ⟨(j2.andAlloc _).cell d0 (fun f => f), (j2.andAlloc _).cell f00 (fun f => f)⟩ | with_reducible exact ⟨jz.cell d0 (fun f => f), jz.cell f00 (fun f => f)⟩
    refine wpAnyH_take (i := 0) (oi := { dst := some 11, op := Op.load 26 (Operand.tmp 4), type := 26, pos := "fold.go:49", after := #[], guard := none }) (v := ?_) rfl (by kernel_rfl) (by kernel_rfl) (by kernel_rfl) (fun _ _ _ h => h) (Or.inl ⟨by rfl, ?_⟩) (by assumption) ?_
    rotate_left
    · (intro wz hSw; (try dsimp only at hSw); go_simp; try with_reducible rfl)
    simp only [Act.put, List.setIfInBounds_toArray, List.set_cons_zero, List.set_cons_succ]
    refine wpAnyH_take (i := 1) (oi := { dst := some 12, op := Op.move (Operand.tmp 2), type := 32, pos := "fold.go:49", after := #[], guard := none }) (v := ?_) rfl (by kernel_rfl) (by kernel_rfl) (by kernel_rfl) (fun _ _ _ h => h) (Or.inl ⟨by rfl, ?_⟩) (by assumption) ?_
    rotate_left
    · (intro wz hSw; (try dsimp only at hSw); go_simp; try with_reducible rfl)
    simp only [Act.put, List.setIfInBounds_toArray, List.set_cons_zero, List.set_cons_succ]
    refine wpAnyH_take (i := 2) (oi := { dst := some 13, op := Op.move (Operand.tmp 0), type := 107, pos := "fold.go:49", after := #[], guard := none }) (v := ?_) rfl (by kernel_rfl) (by kernel_rfl) (by kernel_rfl) (fun _ _ _ h => h) (Or.inl ⟨by rfl, ?_⟩) (by assumption) ?_
    rotate_left
    · (intro wz hSw; (try dsimp only at hSw); go_simp; try with_reducible rfl)
    simp only [Act.put, List.setIfInBounds_toArray, List.set_cons_zero, List.set_cons_succ]
    refine wpAnyH_take (i := 3) (oi := { dst := some 14, op := Op.nilCheck (Operand.tmp 13), type := 0, pos := "fold.go:49", after := #[{ on := 2, ground := Ground.data }], guard := none }) (v := ?_) rfl (by kernel_rfl) (by kernel_rfl) (by kernel_rfl) (fun _ _ _ h => h) (Or.inl ⟨by rfl, ?_⟩) (by assumption) ?_
    rotate_left
    · (intro wz hSw; (try dsimp only at hSw); go_simp; try with_reducible rfl)
    simp only [Act.put, List.setIfInBounds_toArray, List.set_cons_zero, List.set_cons_succ]
    refine wpAnyH_take (i := 4) (oi := { dst := some 15, op := Op.fieldAddr 75 (Operand.tmp 14) 4, type := 0, pos := "fold.go:49", after := #[{ on := 3, ground := Ground.data }], guard := none }) (v := ?_) rfl (by kernel_rfl) (by kernel_rfl) (by kernel_rfl) (fun _ _ _ h => h) (Or.inl ⟨by rfl, ?_⟩) (by assumption) ?_
    rotate_left
    · (intro wz hSw; (try dsimp only at hSw); go_simp; try with_reducible rfl)
    simp only [Act.put, List.setIfInBounds_toArray, List.set_cons_zero, List.set_cons_succ]
    refine wpAnyH_take (i := 5) (oi := { dst := some 16, op := Op.load 3 (Operand.tmp 15), type := 3, pos := "fold.go:49", after := #[{ on := 4, ground := Ground.data }], guard := none }) (v := ?_) rfl (by kernel_rfl) (by kernel_rfl) (by kernel_rfl) (fun _ _ _ h => h) (Or.inl ⟨by rfl, ?_⟩) (by assumption) ?_
    rotate_left
    · (intro wz hSw; (try dsimp only at hSw); go_simp; try with_reducible rfl)
    simp only [Act.put, List.setIfInBounds_toArray, List.set_cons_zero, List.set_cons_succ]
    refine wpAnyH_ready (rs := [6, 10]) (by kernel_rfl) (by simp) ?_
    refine AllReadyH.cons (o := { dst := some 17, op := Op.call { callee := Callee.value (Operand.func 12), args := #[Operand.tmp 11, Operand.tmp 12, Operand.tmp 16], argTypes := #[26, 32, 3] }, type := 43, pos := "fold.go:49", after := #[{ on := 0, ground := Ground.data }, { on := 1, ground := Ground.data }, { on := 5, ground := Ground.data }], guard := none }) rfl (fun K hK => ?_) ?_
    · go_simp
      refine (HEV.out _ (by first | with_reducible exact Keeps.drew None W | with_reducible exact ((Keeps.refl None W).andAlloc _).andDrew)).mono ?_
      rintro _ w2 ⟨rfl, k2⟩
      have j2 : Keeps None W w2 := by first | with_reducible exact (Keeps.drew None W).trans k2 (fun _ f _ => f) | with_reducible exact (((Keeps.refl None W).andAlloc _).andDrew).trans k2 (fun _ f _ => f)
      first | (have hA : Keeps None (W.alloc (.cells #[.int .i64 0, .int .i64 0, .int .i64 0, .int .i64 0, .int .i64 0] 42)).drew w2 := (by with_reducible exact k2); have bz : w2.heap[W.heap.size]? = some (.cells #[.int .i64 0, .int .i64 0, .int .i64 0, .int .i64 0, .int .i64 0] 42 (0, 0)) := blk_kept (blk_kept (heap_alloc_new W (.cells #[.int .i64 0, .int .i64 0, .int .i64 0, .int .i64 0, .int .i64 0] 42)) (Keeps.drew None _) (fun f => f)) hA (fun f => f); have y0 : w2.cell? ⟨W.heap.size, 0, none⟩ = some (.int .i64 0) := (blk_cell bz 0).trans rfl; have q0 : w2.frozen? ⟨W.heap.size, 0, none⟩ = false := blk_free bz 0; have y1 : w2.cell? ⟨W.heap.size, 1, none⟩ = some (.int .i64 0) := (blk_cell bz 1).trans rfl; have q1 : w2.frozen? ⟨W.heap.size, 1, none⟩ = false := blk_free bz 1; have y2 : w2.cell? ⟨W.heap.size, 2, none⟩ = some (.int .i64 0) := (blk_cell bz 2).trans rfl; have q2 : w2.frozen? ⟨W.heap.size, 2, none⟩ = false := blk_free bz 2; have y3 : w2.cell? ⟨W.heap.size, 3, none⟩ = some (.int .i64 0) := (blk_cell bz 3).trans rfl; have q3 : w2.frozen? ⟨W.heap.size, 3, none⟩ = false := blk_free bz 3; have y4 : w2.cell? ⟨W.heap.size, 4, none⟩ = some (.int .i64 0) := (blk_cell bz 4).trans rfl; have q4 : w2.frozen? ⟨W.heap.size, 4, none⟩ = false := blk_free bz 4; have bs := blk_set (i := 4) (blk_set (i := 3) (blk_set (i := 2) (blk_set (i := 1) (blk_set (i := 0) bz (.int .i64 V)) (.int .i64 Wk)) (.int .i64 T)) (.int .i64 dd)) (.int .i64 sp); have js : Keeps (· = W.heap.size) W _ := ((((((j2.mono (T := (· = W.heap.size)) (fun _ f _ => f.elim)).andSet (x := ⟨W.heap.size, 0, none⟩) (.inl rfl) (.int .i64 V)).andSet (x := ⟨W.heap.size, 1, none⟩) (.inl rfl) (.int .i64 Wk)).andSet (x := ⟨W.heap.size, 2, none⟩) (.inl rfl) (.int .i64 T)).andSet (x := ⟨W.heap.size, 3, none⟩) (.inl rfl) (.int .i64 dd)).andSet (x := ⟨W.heap.size, 4, none⟩) (.inl rfl) (.int .i64 sp)); have jz := js.mono (T := None) (fun i e hi => absurd hi (by have e' : i = W.heap.size := e; omega))) | skip
      refine hK.out _ _ ?_ (fun hHeld2 => ?_)
      · (try dsimp only); first | with_reducible exact ⟨d00, f0⟩ | with_reducible exact ⟨rB, rX⟩ | with_reducible exact ⟨j2.cell d0 (fun f => f), j2.cell f00 (fun f => f)⟩ | with_reducible exact ⟨(((Keeps.refl None W).andAlloc _).andDrew).cell d0 (fun f => f), (((Keeps.refl None W).andAlloc _).andDrew).cell f00 (fun f => f)⟩ | with_reducible exact ⟨(j2.andAlloc _).cell d0 (fun f => f), (j2.andAlloc _).cell f00 (fun f => f)⟩ | with_reducible exact ⟨jz.cell d0 (fun f => f), jz.cell f00 (fun f => f)⟩
      clear hK K
      try simp only [Act.put, List.setIfInBounds_toArray, List.set_cons_zero, List.set_cons_succ]
      refine wpAnyH_take (i := 7) (oi := { dst := some 10, op := Op.move (Operand.tmp 17), type := 43, pos := "fold.go:49", after := #[{ on := 6, ground := Ground.data }], guard := none }) (v := ?_) rfl (by kernel_rfl) (by kernel_rfl) (by kernel_rfl) (fun _ _ _ h => h) (Or.inl ⟨by rfl, ?_⟩) (by assumption) ?_
      rotate_left
      · (intro wz hSw; (try dsimp only at hSw); go_simp; try with_reducible rfl)
      simp only [Act.put, List.setIfInBounds_toArray, List.set_cons_zero, List.set_cons_succ]
      refine wpAnyH_take (i := 8) (oi := { dst := some 18, op := Op.extract (Operand.tmp 10) 0, type := 42, pos := "fold.go:49", after := #[{ on := 7, ground := Ground.data }], guard := none }) (v := ?_) rfl (by kernel_rfl) (by kernel_rfl) (by kernel_rfl) (fun _ _ _ h => h) (Or.inl ⟨by rfl, ?_⟩) (by assumption) ?_
      rotate_left
      · (intro wz hSw; (try dsimp only at hSw); go_simp; try with_reducible rfl)
      simp only [Act.put, List.setIfInBounds_toArray, List.set_cons_zero, List.set_cons_succ]
      refine wpAnyH_take (i := 9) (oi := { dst := some 19, op := Op.extract (Operand.tmp 10) 1, type := 33, pos := "fold.go:49", after := #[{ on := 7, ground := Ground.data }, { on := 11, ground := Ground.gcOnly Departure.lateStores }], guard := none }) (v := ?_) rfl (by kernel_rfl) (by kernel_rfl) (by kernel_rfl) (fun _ _ _ h => h) (Or.inl ⟨by rfl, ?_⟩) (by assumption) ?_
      rotate_left
      · (intro wz hSw; (try dsimp only at hSw); go_simp; try with_reducible rfl)
      simp only [Act.put, List.setIfInBounds_toArray, List.set_cons_zero, List.set_cons_succ]
      refine wpAnyH_ready (rs := [10]) (by kernel_rfl) (by simp) ?_
      refine AllReadyH.cons (o := { dst := some 8, op := Op.alloc 42, type := 0, pos := "fold.go:49", after := #[], guard := none }) rfl (fun K hK => ?_) ?_
      · go_simp
        refine hK.out _ _ ?_ (fun hHeld2 => ?_)
        · (try dsimp only); first | with_reducible exact ⟨d00, f0⟩ | with_reducible exact ⟨rB, rX⟩ | with_reducible exact ⟨j2.cell d0 (fun f => f), j2.cell f00 (fun f => f)⟩ | with_reducible exact ⟨(((Keeps.refl None W).andAlloc _).andDrew).cell d0 (fun f => f), (((Keeps.refl None W).andAlloc _).andDrew).cell f00 (fun f => f)⟩ | with_reducible exact ⟨(j2.andAlloc _).cell d0 (fun f => f), (j2.andAlloc _).cell f00 (fun f => f)⟩ | with_reducible exact ⟨jz.cell d0 (fun f => f), jz.cell f00 (fun f => f)⟩
        clear hK K
        try simp only [Act.put, List.setIfInBounds_toArray, List.set_cons_zero, List.set_cons_succ]
        refine wpAnyH_ready (rs := [11]) (by kernel_rfl) (by simp) ?_
        refine AllReadyH.cons (o := { dst := none, op := Op.store 42 (Operand.tmp 8) (Operand.tmp 18), type := 0, pos := "fold.go:49", after := #[{ on := 10, ground := Ground.data }, { on := 8, ground := Ground.data }, { on := 6, ground := Ground.chain }, { on := 0, ground := Ground.phase }, { on := 1, ground := Ground.phase }, { on := 2, ground := Ground.phase }, { on := 3, ground := Ground.phase }, { on := 4, ground := Ground.phase }, { on := 5, ground := Ground.phase }, { on := 6, ground := Ground.phase }, { on := 7, ground := Ground.phase }, { on := 8, ground := Ground.phase }, { on := 9, ground := Ground.textOnly Departure.lateStores }, { on := 10, ground := Ground.phase }], guard := none }) rfl (fun K hK => ?_) ?_
        · go_simp
          refine hK.out _ _ ?_ (fun hHeld2 => ?_)
          · (try dsimp only); first | with_reducible exact ⟨d00, f0⟩ | with_reducible exact ⟨rB, rX⟩ | with_reducible exact ⟨j2.cell d0 (fun f => f), j2.cell f00 (fun f => f)⟩ | with_reducible exact ⟨(((Keeps.refl None W).andAlloc _).andDrew).cell d0 (fun f => f), (((Keeps.refl None W).andAlloc _).andDrew).cell f00 (fun f => f)⟩ | with_reducible exact ⟨(j2.andAlloc _).cell d0 (fun f => f), (j2.andAlloc _).cell f00 (fun f => f)⟩ | with_reducible exact ⟨jz.cell d0 (fun f => f), jz.cell f00 (fun f => f)⟩
          clear hK K
          try simp only [Act.put, List.setIfInBounds_toArray, List.set_cons_zero, List.set_cons_succ]
          refine wpAnyH_take (i := 12) (oi := { dst := some 9, op := Op.assign (Operand.tmp 19), type := 33, pos := "fold.go:49", after := #[{ on := 9, ground := Ground.data }, { on := 11, ground := Ground.chain }, { on := 0, ground := Ground.phase }, { on := 1, ground := Ground.phase }, { on := 2, ground := Ground.phase }, { on := 3, ground := Ground.phase }, { on := 4, ground := Ground.phase }, { on := 5, ground := Ground.phase }, { on := 6, ground := Ground.phase }, { on := 7, ground := Ground.phase }, { on := 8, ground := Ground.phase }, { on := 9, ground := Ground.phase }, { on := 10, ground := Ground.phase }, { on := 11, ground := Ground.phase }], guard := none }) (v := ?_) rfl (by kernel_rfl) (by kernel_rfl) (by kernel_rfl) (fun _ _ _ h => h) (Or.inl ⟨by rfl, ?_⟩) (by assumption) ?_
          rotate_left
          · (intro wz hSw; (try dsimp only at hSw); go_simp; try with_reducible rfl)
          simp only [Act.put, List.setIfInBounds_toArray, List.set_cons_zero, List.set_cons_succ]
          refine wpAnyH_done (by kernel_rfl) ?_ _
          go_wp2_with fail
          go_meet
          first | (have hbs := bs; exact ⟨_, rfl, rfl, hbs, HX.out.1.size, jz⟩) | exact ⟨_, rfl, rfl, heap_alloc_new w2 _, by have := j2.size; have := HX.out.1.size; omega, j2.andAlloc _⟩
        exact AllReadyH.nil
      exact AllReadyH.nil
    refine AllReadyH.cons (o := { dst := some 8, op := Op.alloc 42, type := 0, pos := "fold.go:49", after := #[], guard := none }) rfl (fun K hK => ?_) ?_
    · go_simp
      refine hK.out _ _ ?_ (fun hHeld2 => ?_)
      · (try dsimp only); first | with_reducible exact ⟨d00, f0⟩ | with_reducible exact ⟨rB, rX⟩ | with_reducible exact ⟨j2.cell d0 (fun f => f), j2.cell f00 (fun f => f)⟩ | with_reducible exact ⟨(((Keeps.refl None W).andAlloc _).andDrew).cell d0 (fun f => f), (((Keeps.refl None W).andAlloc _).andDrew).cell f00 (fun f => f)⟩ | with_reducible exact ⟨(j2.andAlloc _).cell d0 (fun f => f), (j2.andAlloc _).cell f00 (fun f => f)⟩ | with_reducible exact ⟨jz.cell d0 (fun f => f), jz.cell f00 (fun f => f)⟩
      clear hK K
      try simp only [Act.put, List.setIfInBounds_toArray, List.set_cons_zero, List.set_cons_succ]
      refine wpAnyH_ready (rs := [6]) (by kernel_rfl) (by simp) ?_
      refine AllReadyH.cons (o := { dst := some 17, op := Op.call { callee := Callee.value (Operand.func 12), args := #[Operand.tmp 11, Operand.tmp 12, Operand.tmp 16], argTypes := #[26, 32, 3] }, type := 43, pos := "fold.go:49", after := #[{ on := 0, ground := Ground.data }, { on := 1, ground := Ground.data }, { on := 5, ground := Ground.data }], guard := none }) rfl (fun K hK => ?_) ?_
      · go_simp
        refine (HEV.out _ (by first | with_reducible exact Keeps.drew None W | with_reducible exact ((Keeps.refl None W).andAlloc _).andDrew)).mono ?_
        rintro _ w2 ⟨rfl, k2⟩
        have j2 : Keeps None W w2 := by first | with_reducible exact (Keeps.drew None W).trans k2 (fun _ f _ => f) | with_reducible exact (((Keeps.refl None W).andAlloc _).andDrew).trans k2 (fun _ f _ => f)
        first | (have hA : Keeps None (W.alloc (.cells #[.int .i64 0, .int .i64 0, .int .i64 0, .int .i64 0, .int .i64 0] 42)).drew w2 := (by with_reducible exact k2); have bz : w2.heap[W.heap.size]? = some (.cells #[.int .i64 0, .int .i64 0, .int .i64 0, .int .i64 0, .int .i64 0] 42 (0, 0)) := blk_kept (blk_kept (heap_alloc_new W (.cells #[.int .i64 0, .int .i64 0, .int .i64 0, .int .i64 0, .int .i64 0] 42)) (Keeps.drew None _) (fun f => f)) hA (fun f => f); have y0 : w2.cell? ⟨W.heap.size, 0, none⟩ = some (.int .i64 0) := (blk_cell bz 0).trans rfl; have q0 : w2.frozen? ⟨W.heap.size, 0, none⟩ = false := blk_free bz 0; have y1 : w2.cell? ⟨W.heap.size, 1, none⟩ = some (.int .i64 0) := (blk_cell bz 1).trans rfl; have q1 : w2.frozen? ⟨W.heap.size, 1, none⟩ = false := blk_free bz 1; have y2 : w2.cell? ⟨W.heap.size, 2, none⟩ = some (.int .i64 0) := (blk_cell bz 2).trans rfl; have q2 : w2.frozen? ⟨W.heap.size, 2, none⟩ = false := blk_free bz 2; have y3 : w2.cell? ⟨W.heap.size, 3, none⟩ = some (.int .i64 0) := (blk_cell bz 3).trans rfl; have q3 : w2.frozen? ⟨W.heap.size, 3, none⟩ = false := blk_free bz 3; have y4 : w2.cell? ⟨W.heap.size, 4, none⟩ = some (.int .i64 0) := (blk_cell bz 4).trans rfl; have q4 : w2.frozen? ⟨W.heap.size, 4, none⟩ = false := blk_free bz 4; have bs := blk_set (i := 4) (blk_set (i := 3) (blk_set (i := 2) (blk_set (i := 1) (blk_set (i := 0) bz (.int .i64 V)) (.int .i64 Wk)) (.int .i64 T)) (.int .i64 dd)) (.int .i64 sp); have js : Keeps (· = W.heap.size) W _ := ((((((j2.mono (T := (· = W.heap.size)) (fun _ f _ => f.elim)).andSet (x := ⟨W.heap.size, 0, none⟩) (.inl rfl) (.int .i64 V)).andSet (x := ⟨W.heap.size, 1, none⟩) (.inl rfl) (.int .i64 Wk)).andSet (x := ⟨W.heap.size, 2, none⟩) (.inl rfl) (.int .i64 T)).andSet (x := ⟨W.heap.size, 3, none⟩) (.inl rfl) (.int .i64 dd)).andSet (x := ⟨W.heap.size, 4, none⟩) (.inl rfl) (.int .i64 sp)); have jz := js.mono (T := None) (fun i e hi => absurd hi (by have e' : i = W.heap.size := e; omega))) | skip
        refine hK.out _ _ ?_ (fun hHeld2 => ?_)
        · (try dsimp only); first | with_reducible exact ⟨d00, f0⟩ | with_reducible exact ⟨rB, rX⟩ | with_reducible exact ⟨j2.cell d0 (fun f => f), j2.cell f00 (fun f => f)⟩ | with_reducible exact ⟨(((Keeps.refl None W).andAlloc _).andDrew).cell d0 (fun f => f), (((Keeps.refl None W).andAlloc _).andDrew).cell f00 (fun f => f)⟩ | with_reducible exact ⟨(j2.andAlloc _).cell d0 (fun f => f), (j2.andAlloc _).cell f00 (fun f => f)⟩ | with_reducible exact ⟨jz.cell d0 (fun f => f), jz.cell f00 (fun f => f)⟩
        clear hK K
        try simp only [Act.put, List.setIfInBounds_toArray, List.set_cons_zero, List.set_cons_succ]
        refine wpAnyH_take (i := 7) (oi := { dst := some 10, op := Op.move (Operand.tmp 17), type := 43, pos := "fold.go:49", after := #[{ on := 6, ground := Ground.data }], guard := none }) (v := ?_) rfl (by kernel_rfl) (by kernel_rfl) (by kernel_rfl) (fun _ _ _ h => h) (Or.inl ⟨by rfl, ?_⟩) (by assumption) ?_
        rotate_left
        · (intro wz hSw; (try dsimp only at hSw); go_simp; try with_reducible rfl)
        simp only [Act.put, List.setIfInBounds_toArray, List.set_cons_zero, List.set_cons_succ]
        refine wpAnyH_take (i := 8) (oi := { dst := some 18, op := Op.extract (Operand.tmp 10) 0, type := 42, pos := "fold.go:49", after := #[{ on := 7, ground := Ground.data }], guard := none }) (v := ?_) rfl (by kernel_rfl) (by kernel_rfl) (by kernel_rfl) (fun _ _ _ h => h) (Or.inl ⟨by rfl, ?_⟩) (by assumption) ?_
        rotate_left
        · (intro wz hSw; (try dsimp only at hSw); go_simp; try with_reducible rfl)
        simp only [Act.put, List.setIfInBounds_toArray, List.set_cons_zero, List.set_cons_succ]
        refine wpAnyH_take (i := 9) (oi := { dst := some 19, op := Op.extract (Operand.tmp 10) 1, type := 33, pos := "fold.go:49", after := #[{ on := 7, ground := Ground.data }, { on := 11, ground := Ground.gcOnly Departure.lateStores }], guard := none }) (v := ?_) rfl (by kernel_rfl) (by kernel_rfl) (by kernel_rfl) (fun _ _ _ h => h) (Or.inl ⟨by rfl, ?_⟩) (by assumption) ?_
        rotate_left
        · (intro wz hSw; (try dsimp only at hSw); go_simp; try with_reducible rfl)
        simp only [Act.put, List.setIfInBounds_toArray, List.set_cons_zero, List.set_cons_succ]
        refine wpAnyH_ready (rs := [11]) (by kernel_rfl) (by simp) ?_
        refine AllReadyH.cons (o := { dst := none, op := Op.store 42 (Operand.tmp 8) (Operand.tmp 18), type := 0, pos := "fold.go:49", after := #[{ on := 10, ground := Ground.data }, { on := 8, ground := Ground.data }, { on := 6, ground := Ground.chain }, { on := 0, ground := Ground.phase }, { on := 1, ground := Ground.phase }, { on := 2, ground := Ground.phase }, { on := 3, ground := Ground.phase }, { on := 4, ground := Ground.phase }, { on := 5, ground := Ground.phase }, { on := 6, ground := Ground.phase }, { on := 7, ground := Ground.phase }, { on := 8, ground := Ground.phase }, { on := 9, ground := Ground.textOnly Departure.lateStores }, { on := 10, ground := Ground.phase }], guard := none }) rfl (fun K hK => ?_) ?_
        · go_simp
          refine hK.out _ _ ?_ (fun hHeld2 => ?_)
          · (try dsimp only); first | with_reducible exact ⟨d00, f0⟩ | with_reducible exact ⟨rB, rX⟩ | with_reducible exact ⟨j2.cell d0 (fun f => f), j2.cell f00 (fun f => f)⟩ | with_reducible exact ⟨(((Keeps.refl None W).andAlloc _).andDrew).cell d0 (fun f => f), (((Keeps.refl None W).andAlloc _).andDrew).cell f00 (fun f => f)⟩ | with_reducible exact ⟨(j2.andAlloc _).cell d0 (fun f => f), (j2.andAlloc _).cell f00 (fun f => f)⟩ | with_reducible exact ⟨jz.cell d0 (fun f => f), jz.cell f00 (fun f => f)⟩
          clear hK K
          try simp only [Act.put, List.setIfInBounds_toArray, List.set_cons_zero, List.set_cons_succ]
          refine wpAnyH_take (i := 12) (oi := { dst := some 9, op := Op.assign (Operand.tmp 19), type := 33, pos := "fold.go:49", after := #[{ on := 9, ground := Ground.data }, { on := 11, ground := Ground.chain }, { on := 0, ground := Ground.phase }, { on := 1, ground := Ground.phase }, { on := 2, ground := Ground.phase }, { on := 3, ground := Ground.phase }, { on := 4, ground := Ground.phase }, { on := 5, ground := Ground.phase }, { on := 6, ground := Ground.phase }, { on := 7, ground := Ground.phase }, { on := 8, ground := Ground.phase }, { on := 9, ground := Ground.phase }, { on := 10, ground := Ground.phase }, { on := 11, ground := Ground.phase }], guard := none }) (v := ?_) rfl (by kernel_rfl) (by kernel_rfl) (by kernel_rfl) (fun _ _ _ h => h) (Or.inl ⟨by rfl, ?_⟩) (by assumption) ?_
          rotate_left
          · (intro wz hSw; (try dsimp only at hSw); go_simp; try with_reducible rfl)
          simp only [Act.put, List.setIfInBounds_toArray, List.set_cons_zero, List.set_cons_succ]
          refine wpAnyH_done (by kernel_rfl) ?_ _
          go_wp2_with fail
          go_meet
          first | (have hbs := bs; exact ⟨_, rfl, rfl, hbs, HX.out.1.size, jz⟩) | exact ⟨_, rfl, rfl, heap_alloc_new w2 _, by have := j2.size; have := HX.out.1.size; omega, j2.andAlloc _⟩
        exact AllReadyH.nil
      exact AllReadyH.nil
    exact AllReadyH.nil
  case rest =>
    obtain ⟨H, rfl, rfl, bH, hH, jc⟩ := hcut
    have bX := blk_kept HX.out.2.1 jc (fun f => f)
    have g1 : wc.cell? ⟨H, 1, none⟩ = some (.int .i64 Wk) := (blk_cell bH 1).trans rfl
    have g1d : wc.drew.cell? ⟨H, 1, none⟩ = some (.int .i64 Wk) := (Keeps.drew None wc).cell g1 (fun f => f)
    have g4 : wc.cell? ⟨X, 4, none⟩ = some (.int .i64 F) := (blk_cell bX 4).trans rfl
    have g4d : wc.drew.cell? ⟨X, 4, none⟩ = some (.int .i64 F) := (Keeps.drew None wc).cell g4 (fun f => f)
    have z4 := blk_free bX 4
    have z4d : wc.drew.frozen? ⟨X, 4, none⟩ = false := blk_free (blk_kept bX (Keeps.drew None wc) (fun f => f)) 4
    have kS := Keeps.setCell (S := (· = X)) wc.drew (a := ⟨X, 4, none⟩) rfl (.int .i64 F2)
    have bS := blk_set (i := 4) (blk_kept bX (Keeps.drew None wc) (fun f => f)) (.int .i64 F2)
    have hne : H ≠ X := by have := HX.out.2.2.2; omega
    have bH2 := blk_kept (blk_kept bH (Keeps.drew None wc) (fun f => f)) kS (by simpa using hne)
    have HR : Hid ((wc.drew.setCell ⟨X, 4, none⟩ (.int .i64 F2)).heap[X]? = some (.cells #[sb, sc, .int .i64 u, .int .i64 G, .int .i64 F2] 75 (0, 0)) ∧ Keeps (· = X) w (wc.drew.setCell ⟨X, 4, none⟩ (.int .i64 F2)) ∧ (wc.drew.setCell ⟨X, 4, none⟩ (.int .i64 F2)).cell? ⟨H, 0, none⟩ = some (.int .i64 V)) := ⟨bS, ((HX.out.1.trans jc (fun _ f _ => f)).andDrew.mono (T := (· = X)) (fun _ f _ => f.elim)).trans kS (fun _ e _ => e), (blk_cell bH2 0).trans rfl⟩
    have g1s : (wc.drew.setCell ⟨X, 4, none⟩ (.int .i64 F2)).cell? ⟨H, 1, none⟩ = some (.int .i64 Wk) := (blk_cell bH2 1).trans rfl
    clear bS kS bH2 bH bX jc f00 f0 d00 d0
    go_upto_region 2 with fail
    go_cut [] (fun wd => wd.heap[X]? = some (.cells #[sb, sc, .int .i64 u, .int .i64 G, .int .i64 F2] 75 (0, 0)) ∧ Keeps (· = X) w wd ∧ wd.cell? ⟨H, 0, none⟩ = some (.int .i64 V))
    case first =>
      refine wp_region_held_drew (S := (fun w' => w'.cell? ⟨H, 1, none⟩ = some (.int .i64 Wk))) (by kernel_rfl) ?_ (fun hHeld => ?_)
      · (try dsimp only); first | exact g1d | exact g1s
      refine wpAnyH_take (i := 0) (oi := { dst := some 20, op := Op.move (Operand.tmp 0), type := 107, pos := "fold.go:50", after := #[], guard := none }) (v := ?_) rfl (by kernel_rfl) (by kernel_rfl) (by kernel_rfl) (fun _ _ _ h => h) (Or.inl ⟨by rfl, ?_⟩) (by assumption) ?_
      rotate_left
      · (intro wz hSw; (try dsimp only at hSw); go_simp; try with_reducible rfl)
      simp only [Act.put, List.setIfInBounds_toArray, List.set_cons_zero, List.set_cons_succ]
      refine wpAnyH_take (i := 1) (oi := { dst := some 21, op := Op.nilCheck (Operand.tmp 20), type := 0, pos := "fold.go:50", after := #[{ on := 0, ground := Ground.data }], guard := none }) (v := ?_) rfl (by kernel_rfl) (by kernel_rfl) (by kernel_rfl) (fun _ _ _ h => h) (Or.inl ⟨by rfl, ?_⟩) (by assumption) ?_
      rotate_left
      · (intro wz hSw; (try dsimp only at hSw); go_simp; try with_reducible rfl)
      simp only [Act.put, List.setIfInBounds_toArray, List.set_cons_zero, List.set_cons_succ]
      refine wpAnyH_take (i := 2) (oi := { dst := some 22, op := Op.fieldAddr 75 (Operand.tmp 21) 4, type := 0, pos := "fold.go:50", after := #[{ on := 1, ground := Ground.data }], guard := none }) (v := ?_) rfl (by kernel_rfl) (by kernel_rfl) (by kernel_rfl) (fun _ _ _ h => h) (Or.inl ⟨by rfl, ?_⟩) (by assumption) ?_
      rotate_left
      · (intro wz hSw; (try dsimp only at hSw); go_simp; try with_reducible rfl)
      simp only [Act.put, List.setIfInBounds_toArray, List.set_cons_zero, List.set_cons_succ]
      refine wpAnyH_take (i := 4) (oi := { dst := some 24, op := Op.fieldAddr 42 (Operand.tmp 8) 1, type := 0, pos := "fold.go:50", after := #[], guard := none }) (v := ?_) rfl (by kernel_rfl) (by kernel_rfl) (by kernel_rfl) (fun _ _ _ h => h) (Or.inl ⟨by rfl, ?_⟩) (by assumption) ?_
      rotate_left
      · (intro wz hSw; (try dsimp only at hSw); go_simp; try with_reducible rfl)
      simp only [Act.put, List.setIfInBounds_toArray, List.set_cons_zero, List.set_cons_succ]
      refine wpAnyH_take (i := 5) (oi := { dst := some 25, op := Op.load 3 (Operand.tmp 24), type := 3, pos := "fold.go:50", after := #[{ on := 4, ground := Ground.data }], guard := none }) (v := ?_) rfl (by kernel_rfl) (by kernel_rfl) (by kernel_rfl) (fun _ _ _ h => h) (Or.inl ⟨by rfl, ?_⟩) (by assumption) ?_
      rotate_left
      · (intro wz hSw; (try dsimp only at hSw); go_simp; try with_reducible rfl)
      simp only [Act.put, List.setIfInBounds_toArray, List.set_cons_zero, List.set_cons_succ]
      refine wpAnyH_ready (rs := [3]) (by kernel_rfl) (by simp) ?_
      refine AllReadyH.cons (o := { dst := some 23, op := Op.load 3 (Operand.tmp 22), type := 3, pos := "fold.go:50", after := #[{ on := 2, ground := Ground.data }], guard := none }) rfl (fun K hK => ?_) ?_
      · go_simp
        refine hK.out _ _ ?_ (fun hHeld2 => ?_)
        · (try dsimp only); first | exact g1d | exact g1s
        clear hK K
        try simp only [Act.put, List.setIfInBounds_toArray, List.set_cons_zero, List.set_cons_succ]
        refine wpAnyH_take (i := 6) (oi := { dst := some 26, op := Op.binOp BinOp.sub 3 (Operand.tmp 23) (Operand.tmp 25) 3, type := 3, pos := "fold.go:50", after := #[{ on := 3, ground := Ground.data }, { on := 5, ground := Ground.data }], guard := none }) (v := ?_) rfl (by kernel_rfl) (by kernel_rfl) (by kernel_rfl) (fun _ _ _ h => h) (Or.inl ⟨by rfl, ?_⟩) (by assumption) ?_
        rotate_left
        · (intro wz hSw; (try dsimp only at hSw); go_simp; try with_reducible rfl)
        simp only [Act.put, List.setIfInBounds_toArray, List.set_cons_zero, List.set_cons_succ]
        refine wpAnyH_take (i := 7) (oi := { dst := some 27, op := Op.nilCheck (Operand.tmp 20), type := 0, pos := "fold.go:50", after := #[{ on := 0, ground := Ground.data }, { on := 0, ground := Ground.phase }, { on := 1, ground := Ground.phase }, { on := 2, ground := Ground.phase }, { on := 3, ground := Ground.phase }, { on := 4, ground := Ground.phase }, { on := 5, ground := Ground.phase }, { on := 6, ground := Ground.phase }], guard := none }) (v := ?_) rfl (by kernel_rfl) (by kernel_rfl) (by kernel_rfl) (fun _ _ _ h => h) (Or.inl ⟨by rfl, ?_⟩) (by assumption) ?_
        rotate_left
        · (intro wz hSw; (try dsimp only at hSw); go_simp; try with_reducible rfl)
        simp only [Act.put, List.setIfInBounds_toArray, List.set_cons_zero, List.set_cons_succ]
        refine wpAnyH_take (i := 8) (oi := { dst := some 28, op := Op.fieldAddr 75 (Operand.tmp 27) 4, type := 0, pos := "fold.go:50", after := #[{ on := 7, ground := Ground.data }, { on := 0, ground := Ground.phase }, { on := 1, ground := Ground.phase }, { on := 2, ground := Ground.phase }, { on := 3, ground := Ground.phase }, { on := 4, ground := Ground.phase }, { on := 5, ground := Ground.phase }, { on := 6, ground := Ground.phase }], guard := none }) (v := ?_) rfl (by kernel_rfl) (by kernel_rfl) (by kernel_rfl) (fun _ _ _ h => h) (Or.inl ⟨by rfl, ?_⟩) (by assumption) ?_
        rotate_left
        · (intro wz hSw; (try dsimp only at hSw); go_simp; try with_reducible rfl)
        simp only [Act.put, List.setIfInBounds_toArray, List.set_cons_zero, List.set_cons_succ]
        refine wpAnyH_ready (rs := [9]) (by kernel_rfl) (by simp) ?_
        refine AllReadyH.cons (o := { dst := none, op := Op.store 3 (Operand.tmp 28) (Operand.tmp 26), type := 0, pos := "fold.go:50", after := #[{ on := 8, ground := Ground.data }, { on := 6, ground := Ground.data }, { on := 0, ground := Ground.phase }, { on := 1, ground := Ground.phase }, { on := 2, ground := Ground.phase }, { on := 3, ground := Ground.phase }, { on := 4, ground := Ground.phase }, { on := 5, ground := Ground.phase }, { on := 6, ground := Ground.phase }], guard := none }) rfl (fun K hK => ?_) ?_
        · go_simp
          refine hK.out _ _ ?_ (fun hHeld2 => ?_)
          · (try dsimp only); first | exact g1d | exact g1s
          clear hK K
          try simp only [Act.put, List.setIfInBounds_toArray, List.set_cons_zero, List.set_cons_succ]
          refine wpAnyH_done (by kernel_rfl) ?_ _
          go_wp2_with fail
          go_meet
          exact HR.out
        exact AllReadyH.nil
      exact AllReadyH.nil
    case rest =>
      obtain ⟨b1, k1, v1⟩ := hcut
      have HS : Hid _ := And.intro b1 k1
      clear b1 k1 g1 g1d g1s g4 g4d z4 z4d
      go_wp2
      go_ret2
      exact ⟨rfl, HS.out.1, HS.out.2⟩
end Go.Proofs.YtafgkehmmfmloaaDoor
