import Derived.Test.YtiibflbfnoddmaaDoorPkAS
import Derived.Test.YtiibflbfnoddmaaDoorPkAN
import Derived.Test.YtiibflbfnoddmaaDoorPkAR
import Derived.Test.YtiibflbfnoddmaaDoorPkAL
import Derived.Test.YtiibflbfnoddmaaDoorPkAK
/-! parlib.Reduce. -/
namespace Go.Proofs.YtiibflbfnoddmaaDoor
set_option linter.unusedVariables false
set_option maxRecDepth 20000
open Go.RowKit Go.HeapKit Go.PlainOps

set_option maxHeartbeats 2000000 in
theorem wrongComb_any (a : Option Addr) (n c : Nat) (l : List Fn) (k : Int) (w : World) (hS : SeenF w a n l) :
    Calls Tryd.prog 26 #[.agg #[.slice a n c], .int .i64 k] w fun e w' => e = .returned (.int .i64 (combE l k)) ∧ Keeps None w w' := by
  obtain ⟨W, B, hW, hB, bP, hal, d0, sW⟩ := box_prog w a n c
  have htk := takes_any a n c l k 2 W (hS.more hal)
  have HX : Hid (Keeps None w W) := hal
  unfold combE
  generalize takesV l k 2 = Q at *
  clear hS hal bP sW
  cases Q
  all_goals (
    go_enter Tryd.func26, Tryd.ntmps26
    go_upto_region 1 with fail
    rw [← hW, ← hB]
    clear hW hB
    go_wp2_with fail
    refine htk.mono ?_
    rintro _ w3 ⟨rfl, k3⟩
    have HK : Hid (Keeps None w w3) := HX.out.trans k3 (fun _ f _ => f)
    clear htk k3 d0
    go_wp2_with fail
    refine (unless_any _ _ _).mono ?_
    rintro _ w5 ⟨rfl, k5⟩
    have HK5 : Hid (Keeps None w w5) := HK.out.trans k5 (fun _ f _ => f)
    clear k5
    go_wp2
    go_ret
    exact ⟨rfl, HK5.out⟩)
def redE (l : List Fn) (b c : Int) : Int := firstV [baseE l, bodyE l b, combE l c, roomE l]
theorem firstV_all {l : List Int} (h : firstV l = 0) : ∀ (k : Nat) x, l[k]? = some x → x = 0
  | k, x, hx => by
    by_cases h0 : x = 0
    · exact h0
    · exact absurd ((firstV_next (fun j y hj hy => firstV_all h j y hy) hx h0).symm.trans h) h0
theorem redE_zero {l : List Fn} {b c : Int} (h : redE l b c = 0) : (checkV l).1 = 0 ∧ askV l = false ∧ takesV l b 1 = true ∧ takesV l c 2 = true ∧ l.length ≤ 28 := by
  have h1 := firstV_all h 0 _ rfl
  have h2 := firstV_all h 1 _ rfl
  have h3 := firstV_all h 2 _ rfl
  have h4 := firstV_all h 3 _ rfl
  unfold baseE at h1
  unfold bodyE at h2
  unfold combE at h3
  unfold roomE at h4
  by_cases q1 : (checkV l).1 = 0 ∧ askV l = false
  · by_cases q2 : takesV l b 1 = true
    · by_cases q3 : takesV l c 2 = true
      · by_cases q4 : l.length ≤ 28
        · exact ⟨q1.1, q1.2, q2, q3, q4⟩
        · rw [if_neg q4] at h4; omega
      · rw [if_neg q3] at h3; omega
    · rw [if_neg q2] at h2; omega
  · rw [if_neg q1] at h1; omega
/-- What Reduce answers. -/
def RedPost (l : List Fn) (b c u : Int) (w : World) (e : Ending) (w' : World) : Prop :=
  Keeps None w w' ∧ ((redE l b c ≠ 0 ∧ e = .returned (.tuple #[.agg #[.slice none 0 0], .int .i64 (redE l b c)])) ∨
    (redE l b c = 0 ∧ ∃ v L', e = .returned (.tuple #[.agg #[v], .int .i64 0]) ∧ OwnF w' w.heap.size v L' ∧ L'.map (·.1) = redP l b c u))
set_option maxHeartbeats 4000000 in
theorem reduce_any (a : Option Addr) (n c : Nat) (l : List Fn) (bd cb u : Int) (w : World) (hT : Tabs w) (hS : SeenF w a n l) (hok : ∀ f ∈ l, f.Ok) :
    Calls Tryd.prog 15 #[.agg #[.slice a n c], .int .i64 bd, .int .i64 cb, .int .i64 u] w (RedPost l bd cb u w) := by
  obtain ⟨W1, B, hW1, hB, bP, q1, d0, s1⟩ := box_prog w a n c
  have b2 := heap_alloc_new W1 (.cells #[.slice none 0 0] 24)
  have q2 := Keeps.alloc None W1 (.cells #[.slice none 0 0] 24)
  obtain ⟨W2, hW2⟩ : ∃ W2, W2 = W1.alloc (.cells #[.slice none 0 0] 24) := ⟨_, rfl⟩
  rw [← hW2] at b2 q2
  rw [s1] at b2
  have b1a := blk_kept bP q2 (fun f => f)
  have k2 : Keeps None w W2 := q1.trans q2 (fun _ f _ => f)
  obtain ⟨E1, hE1⟩ : ∃ E, E = baseE l := ⟨_, rfl⟩
  obtain ⟨E2, hE2⟩ : ∃ E, E = bodyE l bd := ⟨_, rfl⟩
  obtain ⟨E3, hE3⟩ : ∃ E, E = combE l cb := ⟨_, rfl⟩
  obtain ⟨E4, hE4⟩ : ∃ E, E = roomE l := ⟨_, rfl⟩
  obtain ⟨E, hE⟩ : ∃ E, E = firstV [E1, E2, E3, E4] := ⟨_, rfl⟩
  have eE : E = redE l bd cb := by rw [hE, hE1, hE2, hE3, hE4]; rfl
  have HX : Hid (Keeps None w W2 ∧ W2.heap[B]? = some (.cells #[.slice a n c] 24 (0, 0)) ∧ W2.heap[B + 1]? = some (.cells #[.slice none 0 0] 24 (0, 0)) ∧ B = w.heap.size ∧ SeenF W2 a n l ∧ Tabs W2 ∧ (∀ f ∈ l, f.Ok) ∧ E = redE l bd cb ∧ n = l.length) := ⟨k2, b1a, b2, hB, hS.more k2, hT.more k2, hok, eE, hS.len⟩
  have hA1 : ∀ w', Keeps None W2 w' → Calls Tryd.prog 18 #[.agg #[.slice a n c]] w' fun e w'' => e = .returned (.int .i64 E1) ∧ Keeps None w' w'' := fun w' hk => by
    rw [hE1]; exact wrongBase_any a n c l w' ((hT.more k2).more hk) ((hS.more k2).more hk) hok
  have hA2 : ∀ w', Keeps None W2 w' → Calls Tryd.prog 19 #[.agg #[.slice a n c], .int .i64 bd] w' fun e w'' => e = .returned (.int .i64 E2) ∧ Keeps None w' w'' := fun w' hk => by
    rw [hE2]; exact wrongBody_any a n c l bd w' ((hS.more k2).more hk)
  have hA3 : ∀ w', Keeps None W2 w' → Calls Tryd.prog 26 #[.agg #[.slice a n c], .int .i64 cb] w' fun e w'' => e = .returned (.int .i64 E3) ∧ Keeps None w' w'' := fun w' hk => by
    rw [hE3]; exact wrongComb_any a n c l cb w' ((hS.more k2).more hk)
  have hA4 : ∀ w', Keeps None W2 w' → Calls Tryd.prog 20 #[.agg #[.slice a n c]] w' fun e w'' => e = .returned (.int .i64 E4) ∧ Keeps None w' w'' := fun w' hk => by
    rw [hE4]; exact wrongRoom_any a n c l w' ((hS.more k2).more hk)
  have H1 : Hid _ := hA1
  have H2 : Hid _ := hA2
  have H3 : Hid _ := hA3
  have H4 : Hid _ := hA4
  have HE : Hid (E = firstV [E1, E2, E3, E4]) := hE
  clear hA1 hA2 hA3 hA4 hE hE1 hE2 hE3 hE4 eE b1a b2 bP q1 q2 k2 s1 hS hT hok d0
  go_enter Tryd.func15, Tryd.ntmps15
  go_upto_region 1 with fail
  rw [← hW1, ← hW2, ← hB]
  clear hW1 hW2 hB
  have r00 : W2.cell? ⟨B, 0, none⟩ = some (.slice a n c) := (blk_cell HX.out.2.1 0).trans rfl
  have r0 : W2.drew.cell? ⟨B, 0, none⟩ = some (.slice a n c) := (Keeps.drew None W2).cell r00 (fun f => f)
  go_cut [10] (fun s6 wc => s6 = .int .i64 E ∧ Keeps None W2 wc)
  case first =>
    refine wp_region_held_drew (S := (fun w' => w'.cell? ⟨B, 0, none⟩ = some (.slice a n c))) (by kernel_rfl) ?_ (fun hHeld => ?_)
    · (try dsimp only); first | exact r12 | exact r10 | exact r9 | exact r7 | exact r4 | exact r1 | exact r0
    refine wpAnyH_take (i := 0) (oi := { dst := some 11, op := Op.load 24 (Operand.tmp 4), type := 24, pos := "parlib.go:19", after := #[], guard := none }) (v := ?_) rfl (by kernel_rfl) (by kernel_rfl) (by kernel_rfl) (fun _ _ _ h => h) (Or.inl ⟨by rfl, ?_⟩) (by assumption) ?_
    rotate_left
    · (intro wz hSw; (try dsimp only at hSw); go_simp; try with_reducible rfl)
    simp only [Act.put, List.setIfInBounds_toArray, List.set_cons_zero, List.set_cons_succ]
    refine wpAnyH_take (i := 2) (oi := { dst := some 13, op := Op.load 24 (Operand.tmp 4), type := 24, pos := "parlib.go:19", after := #[], guard := none }) (v := ?_) rfl (by kernel_rfl) (by kernel_rfl) (by kernel_rfl) (fun _ _ _ h => h) (Or.inl ⟨by rfl, ?_⟩) (by assumption) ?_
    rotate_left
    · (intro wz hSw; (try dsimp only at hSw); go_simp; try with_reducible rfl)
    simp only [Act.put, List.setIfInBounds_toArray, List.set_cons_zero, List.set_cons_succ]
    refine wpAnyH_take (i := 3) (oi := { dst := some 14, op := Op.move (Operand.tmp 1), type := 3, pos := "parlib.go:19", after := #[], guard := none }) (v := ?_) rfl (by kernel_rfl) (by kernel_rfl) (by kernel_rfl) (fun _ _ _ h => h) (Or.inl ⟨by rfl, ?_⟩) (by assumption) ?_
    rotate_left
    · (intro wz hSw; (try dsimp only at hSw); go_simp; try with_reducible rfl)
    simp only [Act.put, List.setIfInBounds_toArray, List.set_cons_zero, List.set_cons_succ]
    refine wpAnyH_take (i := 5) (oi := { dst := some 16, op := Op.load 24 (Operand.tmp 4), type := 24, pos := "parlib.go:19", after := #[], guard := none }) (v := ?_) rfl (by kernel_rfl) (by kernel_rfl) (by kernel_rfl) (fun _ _ _ h => h) (Or.inl ⟨by rfl, ?_⟩) (by assumption) ?_
    rotate_left
    · (intro wz hSw; (try dsimp only at hSw); go_simp; try with_reducible rfl)
    simp only [Act.put, List.setIfInBounds_toArray, List.set_cons_zero, List.set_cons_succ]
    refine wpAnyH_take (i := 6) (oi := { dst := some 17, op := Op.move (Operand.tmp 2), type := 3, pos := "parlib.go:19", after := #[], guard := none }) (v := ?_) rfl (by kernel_rfl) (by kernel_rfl) (by kernel_rfl) (fun _ _ _ h => h) (Or.inl ⟨by rfl, ?_⟩) (by assumption) ?_
    rotate_left
    · (intro wz hSw; (try dsimp only at hSw); go_simp; try with_reducible rfl)
    simp only [Act.put, List.setIfInBounds_toArray, List.set_cons_zero, List.set_cons_succ]
    refine wpAnyH_take (i := 8) (oi := { dst := some 19, op := Op.load 24 (Operand.tmp 4), type := 24, pos := "parlib.go:19", after := #[], guard := none }) (v := ?_) rfl (by kernel_rfl) (by kernel_rfl) (by kernel_rfl) (fun _ _ _ h => h) (Or.inl ⟨by rfl, ?_⟩) (by assumption) ?_
    rotate_left
    · (intro wz hSw; (try dsimp only at hSw); go_simp; try with_reducible rfl)
    simp only [Act.put, List.setIfInBounds_toArray, List.set_cons_zero, List.set_cons_succ]
    refine wpAnyH_ready (rs := [1]) (by kernel_rfl) (by simp) ?_
    refine AllReadyH.cons (o := { dst := some 12, op := Op.call { callee := Callee.value (Operand.func 18), args := #[Operand.tmp 11], argTypes := #[24] }, type := 27, pos := "parlib.go:19", after := #[{ on := 0, ground := Ground.data }], guard := none }) rfl (fun K hK => ?_) ?_
    · go_simp
      refine (H1.out _ (Keeps.drew None W2)).mono ?_
      rintro _ w1 ⟨rfl, k1⟩
      have j1 : Keeps None W2 w1 := (Keeps.drew None W2).trans k1 (fun _ f _ => f)
      have r1 := j1.cell r00 (fun f => f)
      refine hK.out _ _ ?_ (fun hHeld2 => ?_)
      · (try dsimp only); first | exact r12 | exact r10 | exact r9 | exact r7 | exact r4 | exact r1 | exact r0
      clear hK K
      try simp only [Act.put, List.setIfInBounds_toArray, List.set_cons_zero, List.set_cons_succ]
      refine wpAnyH_ready (rs := [4]) (by kernel_rfl) (by simp) ?_
      refine AllReadyH.cons (o := { dst := some 15, op := Op.call { callee := Callee.value (Operand.func 19), args := #[Operand.tmp 13, Operand.tmp 14], argTypes := #[24, 3] }, type := 27, pos := "parlib.go:19", after := #[{ on := 2, ground := Ground.data }, { on := 3, ground := Ground.data }, { on := 1, ground := Ground.chain }], guard := none }) rfl (fun K hK => ?_) ?_
      · go_simp
        refine (H2.out _ j1).mono ?_
        rintro _ w4 ⟨rfl, k4⟩
        have j4 : Keeps None W2 w4 := j1.trans k4 (fun _ f _ => f)
        have r4 := j4.cell r00 (fun f => f)
        refine hK.out _ _ ?_ (fun hHeld2 => ?_)
        · (try dsimp only); first | exact r12 | exact r10 | exact r9 | exact r7 | exact r4 | exact r1 | exact r0
        clear hK K
        try simp only [Act.put, List.setIfInBounds_toArray, List.set_cons_zero, List.set_cons_succ]
        refine wpAnyH_ready (rs := [7]) (by kernel_rfl) (by simp) ?_
        refine AllReadyH.cons (o := { dst := some 18, op := Op.call { callee := Callee.value (Operand.func 26), args := #[Operand.tmp 16, Operand.tmp 17], argTypes := #[24, 3] }, type := 27, pos := "parlib.go:19", after := #[{ on := 5, ground := Ground.data }, { on := 6, ground := Ground.data }, { on := 4, ground := Ground.chain }], guard := none }) rfl (fun K hK => ?_) ?_
        · go_simp
          refine (H3.out _ j4).mono ?_
          rintro _ w7 ⟨rfl, k7⟩
          have j7 : Keeps None W2 w7 := j4.trans k7 (fun _ f _ => f)
          have r7 := j7.cell r00 (fun f => f)
          refine hK.out _ _ ?_ (fun hHeld2 => ?_)
          · (try dsimp only); first | exact r12 | exact r10 | exact r9 | exact r7 | exact r4 | exact r1 | exact r0
          clear hK K
          try simp only [Act.put, List.setIfInBounds_toArray, List.set_cons_zero, List.set_cons_succ]
          refine wpAnyH_ready (rs := [9]) (by kernel_rfl) (by simp) ?_
          refine AllReadyH.cons (o := { dst := some 20, op := Op.call { callee := Callee.value (Operand.func 20), args := #[Operand.tmp 19], argTypes := #[24] }, type := 27, pos := "parlib.go:19", after := #[{ on := 8, ground := Ground.data }, { on := 7, ground := Ground.chain }], guard := none }) rfl (fun K hK => ?_) ?_
          · go_simp
            refine (H4.out _ j7).mono ?_
            rintro _ w9 ⟨rfl, k9⟩
            have j9 : Keeps None W2 w9 := j7.trans k9 (fun _ f _ => f)
            have r9 := j9.cell r00 (fun f => f)
            have j10 := j9.andAlloc (.cells #[.int .i64 E1, .int .i64 E2, .int .i64 E3, .int .i64 E4] 27)
            have r10 := j10.cell r00 (fun f => f)
            refine hK.out _ _ ?_ (fun hHeld2 => ?_)
            · (try dsimp only); first | exact r12 | exact r10 | exact r9 | exact r7 | exact r4 | exact r1 | exact r0
            clear hK K
            try simp only [Act.put, List.setIfInBounds_toArray, List.set_cons_zero, List.set_cons_succ]
            refine wpAnyH_ready (rs := [10]) (by kernel_rfl) (by simp) ?_
            refine AllReadyH.cons (o := { dst := some 21, op := Op.buildSlice 53 4 #[(0, Operand.tmp 12), (1, Operand.tmp 15), (2, Operand.tmp 18), (3, Operand.tmp 20)], type := 53, pos := "parlib.go:19", after := #[{ on := 1, ground := Ground.data }, { on := 4, ground := Ground.data }, { on := 7, ground := Ground.data }, { on := 9, ground := Ground.data }], guard := none }) rfl (fun K hK => ?_) ?_
            · go_simp
              refine hK.out _ _ ?_ (fun hHeld2 => ?_)
              · (try dsimp only); first | exact r12 | exact r10 | exact r9 | exact r7 | exact r4 | exact r1 | exact r0
              clear hK K
              try simp only [Act.put, List.setIfInBounds_toArray, List.set_cons_zero, List.set_cons_succ]
              refine wpAnyH_ready (rs := [11]) (by kernel_rfl) (by simp) ?_
              refine AllReadyH.cons (o := { dst := some 22, op := Op.call { callee := Callee.value (Operand.func 17), args := #[Operand.tmp 21], argTypes := #[53] }, type := 27, pos := "parlib.go:19", after := #[{ on := 10, ground := Ground.data }, { on := 9, ground := Ground.chain }], guard := none }) rfl (fun K hK => ?_) ?_
              · go_simp
                refine (first_any w9.heap.size 4 4 [E1, E2, E3, E4] _ rfl (by simp) (fun k x hx => ?_)).mono ?_
                · rw [blk_cell (heap_alloc_new w9 _)]
                  match k, hx with
                  | 0, hx => simp at hx; subst hx; rfl
                  | 1, hx => simp at hx; subst hx; rfl
                  | 2, hx => simp at hx; subst hx; rfl
                  | 3, hx => simp at hx; subst hx; rfl
                  | k + 4, hx => simp at hx
                rw [← HE.out]
                rintro _ w12 ⟨rfl, k12⟩
                have j12 : Keeps None W2 w12 := j10.trans k12 (fun _ f _ => f)
                have r12 := j12.cell r00 (fun f => f)
                refine hK.out _ _ ?_ (fun hHeld2 => ?_)
                · (try dsimp only); first | exact r12 | exact r10 | exact r9 | exact r7 | exact r4 | exact r1 | exact r0
                clear hK K
                try simp only [Act.put, List.setIfInBounds_toArray, List.set_cons_zero, List.set_cons_succ]
                refine wpAnyH_take (i := 12) (oi := { dst := some 10, op := Op.assign (Operand.tmp 22), type := 27, pos := "parlib.go:19", after := #[{ on := 11, ground := Ground.data }, { on := 11, ground := Ground.chain }, { on := 0, ground := Ground.phase }, { on := 1, ground := Ground.phase }, { on := 2, ground := Ground.phase }, { on := 3, ground := Ground.phase }, { on := 4, ground := Ground.phase }, { on := 5, ground := Ground.phase }, { on := 6, ground := Ground.phase }, { on := 7, ground := Ground.phase }, { on := 8, ground := Ground.phase }, { on := 9, ground := Ground.phase }, { on := 10, ground := Ground.phase }, { on := 11, ground := Ground.phase }], guard := none }) (v := ?_) rfl (by kernel_rfl) (by kernel_rfl) (by kernel_rfl) (fun _ _ _ h => h) (Or.inl ⟨by rfl, ?_⟩) (by assumption) ?_
                rotate_left
                · (intro wz hSw; (try dsimp only at hSw); go_simp; try with_reducible rfl)
                simp only [Act.put, List.setIfInBounds_toArray, List.set_cons_zero, List.set_cons_succ]
                refine wpAnyH_done (by kernel_rfl) ?_ _
                go_wp2_with fail
                go_meet
                exact ⟨rfl, j12⟩
              exact AllReadyH.nil
            exact AllReadyH.nil
          exact AllReadyH.nil
        exact AllReadyH.nil
      exact AllReadyH.nil
    exact AllReadyH.nil
  case rest =>
    obtain ⟨rfl, jc⟩ := hcut
    obtain ⟨X1, X2, X3, X4, X5, X6, X7, X8, X9⟩ := HX.out
    have bR := blk_kept X3 jc (fun f => f)
    have z0 : wc.cell? ⟨B + 1, 0, none⟩ = some (.slice none 0 0) := (blk_cell bR 0).trans rfl
    have z1 := blk_free bR 0
    have hKw : Keeps None w wc := X1.trans jc (fun _ f _ => f)
    clear r00 r0
    by_cases h0 : E = 0
    · have hz := redE_zero (X8.symm.trans h0)
      obtain ⟨y1, y2, y3, y5, y4⟩ := hz
      obtain ⟨v1, v2, v3⟩ := check_valid (check_zero y1)
      unfold takesV at y3 y5
      simp only [Bool.and_eq_true, decide_eq_true_eq] at y3 y5
      have hcall := foldAll_any a n c l bd cb u wc (X5.more jc) (by omega) (by omega) (fun f hf => ⟨by have := (valid_bounds (v3 f hf)).2.2.2.2; omega, fun i hi h5 => by
        obtain ⟨q, hq, e⟩ := List.getElem_of_mem hi
        have := (step_ok (v3 f hf) (at_ := q) (i := i) (by rw [← e]; simp)).fn h5
        omega⟩) (by omega)
      have d0 : wc.cell? ⟨B, 0, none⟩ = some (.slice a n c) := (blk_cell (blk_kept X2 jc (fun f => f)) 0).trans rfl
      have t0 : (E != 0) = false := by simp [h0]
      have HR : Hid (Keeps None w wc ∧ wc.heap[B + 1]? = some (.cells #[.slice none 0 0] 24 (0, 0)) ∧ redE l bd cb = 0 ∧ B = w.heap.size) := ⟨hKw, bR, X8.symm.trans h0, X4⟩
      clear X1 X2 X3 X4 X5 X6 X7 X8 X9 y1 y2 y3 y5 y4 v1 v2 v3 h0 bR hKw z0 z1 jc
      go_wp2_with fail
      refine hcall.mono ?_
      rintro _ w3 ⟨v3, L', rfl, oL', hm', k3⟩
      obtain ⟨a3, c3, rfl, -⟩ := oL'.seen
      have bR := blk_kept HR.out.2.1 k3 (fun f => f)
      have z0 : w3.cell? ⟨B + 1, 0, none⟩ = some (.slice none 0 0) := (blk_cell bR 0).trans rfl
      have z1 := blk_free bR 0
      have HF : Hid (OwnF w3 w.heap.size (.slice a3 L'.length c3) L' ∧ L'.map (·.1) = redP l bd cb u ∧ Keeps None w w3 ∧ w3.heap[B + 1]? = some (.cells #[.slice none 0 0] 24 (0, 0))) := ⟨oL'.low (HR.out.1.size), hm', HR.out.1.trans k3 (fun _ f _ => f), bR⟩
      clear oL' hm' k3 bR hcall d0
      go_wp2
      obtain ⟨P1, P2, P3, P4⟩ := HF.out
      have hw' := Keeps.setCell (S := (· = B + 1)) w3 (a := ⟨B + 1, 0, none⟩) rfl (.slice a3 L'.length c3)
      refine prog_end2 8 9 rfl (blk_set (i := 0) P4 _) rfl rfl rfl ?_
      refine ⟨P3.trans hw' (fun i e hi => ?_), .inr ⟨HR.out.2.2.1, _, L', rfl, ?_, P2⟩⟩
      · have e' : i = B + 1 := e
        have := HR.out.2.2.2
        omega
      · refine ⟨hw'.own P1.row (fun q e hq => ?_), fun x hx => (P1.codes x hx).kept hw' (fun q e hq => ?_), P1.nd⟩
        · subst hq
          have := own_type P1.row e P4
          exact absurd this (by decide)
        · subst hq
          have := own_type (P1.codes x hx) e P4
          exact absurd this (by decide)
    · have t0 : (E != 0) = true := by simp [h0]
      have HR : Hid (Keeps None w wc ∧ wc.heap[B + 1]? = some (.cells #[.slice none 0 0] 24 (0, 0)) ∧ E = redE l bd cb ∧ E ≠ 0) := ⟨hKw, bR, X8, h0⟩
      have hB2 := X4
      clear X1 X2 X3 X4 X5 X6 X7 X8 X9 h0 bR hKw jc
      have HB2 : Hid (B = w.heap.size) := hB2
      clear hB2
      go_wp2
      refine prog_end2 8 9 rfl (blk_set (i := 0) HR.out.2.1 _) rfl rfl rfl ?_
      exact ⟨HR.out.1.andSet (.inr (by have := HB2.out; simp; omega)) _, .inl ⟨by rw [← HR.out.2.2.1]; exact HR.out.2.2.2, by rw [← HR.out.2.2.1]; rfl⟩⟩
end Go.Proofs.YtiibflbfnoddmaaDoor
/-! The document's Pure, takes, base, For, Reduce. -/
namespace Go.Proofs.YtiibflbfnoddmaaDoor
set_option linter.unusedVariables false
set_option maxRecDepth 20000
open Go.RowKit Go.HeapKit Go.PlainOps

set_option maxHeartbeats 2000000 in
theorem pure_any (a : Option Addr) (n c : Nat) (l : List Fn) (w : World) (hS : SeenF w a n l) (hn : n ≤ 32) (hm : ∀ f ∈ l, f.code.length ≤ 512) :
    Calls Tryd.prog 25 #[.agg #[.slice a n c]] w fun e w' => e = .returned (.bool (!askV l)) ∧ Keeps None w w' := by
  obtain ⟨Q, hQ⟩ : ∃ Q, Q = askV l := ⟨_, rfl⟩
  have HQ : Hid (Q = askV l) := hQ
  rw [← hQ]
  clear hQ
  obtain ⟨W, B, hW, hB, bP, hk1, d0, sW⟩ := box_prog w a n c
  have HC : Hid (Keeps None w W ∧ SeenF W a n l ∧ (∀ f ∈ l, f.code.length ≤ 512) ∧ n = l.length ∧ W.cell? ⟨B, 0, none⟩ = some (.slice a n c)) := ⟨hk1, hS.more hk1, hm, hS.len, d0⟩
  clear hk1 hS hm bP sW d0
  have i9 : (n : Int) ≤ 32 := by omega
  go_enter Tryd.func25, Tryd.ntmps25
  go_upto_region 1 with fail
  rw [← hW, ← hB]
  clear hW hB
  go_wp2_with fail
  go_loopw [3] (fun s3 wr => ∃ i : Nat, i ≤ n ∧ s3 = .int .i64 i ∧ wr = W ∧ ∀ j f, j < i → l[j]? = some f → ∀ (q : Nat) x, f.code[q]? = some x → x.kind ≠ 8) (fun i _ => n - (intOf i).toNat)
  case atStart => exact ⟨0, Nat.zero_le _, rfl, rfl, fun j f hj => by omega⟩
  case round =>
    obtain ⟨i, hi, rfl, hwr, hno⟩ := hrel
    subst hwr
    have d0 := HC.out.2.2.2.2
    by_cases hin : i < n
    · have i1 : (i : Int) < (n : Int) := by omega
      have i0 : (0 : Int) ≤ (i : Int) := by omega
      obtain ⟨b, off, f, ca, cc, rfl, hf, hat⟩ := HC.out.2.1.at hin
      obtain ⟨m, hme⟩ : ∃ m, m = f.code.length := ⟨_, rfl⟩
      have c1 := hat.code
      have hse := hat.seen
      rw [← hme] at c1 hse
      have hmb : m ≤ 512 := by rw [hme]; exact HC.out.2.2.1 f (List.mem_of_getElem? hf)
      have HI : Hid ((∀ j f, j < i → l[j]? = some f → ∀ (q : Nat) x, f.code[q]? = some x → x.kind ≠ 8) ∧ l[i]? = some f ∧ m = f.code.length ∧ SeenI wr ca m f.code) := ⟨hno, hf, hme, hse⟩
      clear hno hf hme hse hat
      go_wp2_with fail
      go_loopw [4] (fun s4 wx => ∃ k : Nat, k ≤ m ∧ s4 = .int .i64 k ∧ wx = wr ∧ ∀ q x, q < k → f.code[q]? = some x → x.kind ≠ 8) (fun i _ => m - (intOf i).toNat)
      case atStart => exact ⟨0, Nat.zero_le _, rfl, rfl, fun q x hq => by omega⟩
      case round =>
        rename_i wq _
        obtain ⟨k, hk, rfl, hwx, hnk⟩ := hrel
        subst hwx
        by_cases hkm : k < m
        · have i2 : (k : Int) < (m : Int) := by omega
          have i3 : (0 : Int) ≤ (k : Int) := by omega
          have i4 : (k : Int) ≤ 512 := by omega
          obtain ⟨cb, co, x, rfl, hx, hins⟩ := HI.out.2.2.2.at hkm
          have y0 := hins.kind
          have HX : Hid (f.code[k]? = some x ∧ (∀ q x, q < k → f.code[q]? = some x → x.kind ≠ 8)) := ⟨hx, hnk⟩
          clear hins hx hnk
          by_cases h8 : x.kind = 8
          · have q1 : (x.kind == 8) = true := by simpa using h8
            have eQ : Q = true := by rw [HQ.out]; exact askV_at HI.out.2.1 HX.out.1 h8
            have HE : Hid (Q = true) := eQ
            clear h8 eQ
            go_wp2_with fail
            go_ret
            exact ⟨by simp [HE.out], HC.out.1⟩
          · have q1 : (x.kind == 8) = false := by simpa using h8
            have H8 : Hid _ := h8
            clear h8
            go_wp2_with fail
            exact ⟨⟨k + 1, by omega, by simp, by trivial, fun q z hq hz => by
              by_cases hqk : q = k
              · subst hqk; rw [HX.out.1] at hz; obtain rfl := Option.some.inj hz; exact H8.out
              · exact HX.out.2 q z (by omega) hz⟩, by simp [intOf]; omega⟩
        · have i2 : ¬ ((k : Int) < (m : Int)) := by omega
          have hkm2 : k = m := by omega
          have HX : Hid (∀ q x, q < k → f.code[q]? = some x → x.kind ≠ 8) := hnk
          clear hnk
          go_wp2_with fail
          exact ⟨⟨i + 1, by omega, by simp, by trivial, fun j f' hj hf' q x hx => by
            by_cases hji : j = i
            · subst hji
              rw [HI.out.2.1] at hf'
              obtain rfl := Option.some.inj hf'
              exact HX.out q x (by have := (List.getElem?_eq_some_iff.1 hx).1; have := HI.out.2.2.1; omega) hx
            · exact HI.out.1 j f' (by omega) hf' q x hx⟩, by simp [intOf]; omega⟩
    · have i1 : ¬ ((i : Int) < (n : Int)) := by omega
      obtain rfl : i = n := by omega
      have eQ : Q = false := by
        rw [HQ.out]
        exact askV_no (fun k f hf => hno k f (by have := (List.getElem?_eq_some_iff.1 hf).1; have := HC.out.2.2.2.1; omega) hf)
      have HZ : Hid (Q = false) := eQ
      clear eQ hno
      go_wp2_with fail
      go_ret
      exact ⟨by simp [HZ.out], HC.out.1⟩
set_option maxHeartbeats 2000000 in
theorem rtakes_any (a : Option Addr) (n c : Nat) (l : List Fn) (k p : Int) (w : World) (hS : SeenF w a n l) :
    Calls Tryd.prog 28 #[.agg #[.slice a n c], .int .i64 k, .int .i64 p] w fun e w' => e = .returned (.bool (takesV l k p)) ∧ Keeps None w w' := by
  obtain ⟨W, B, hW, hB, bP, hal, d0, sW⟩ := box_prog w a n c
  obtain ⟨E, hE⟩ : ∃ E, E = takesV l k p := ⟨_, rfl⟩
  rw [← hE]
  have hln := hS.len
  by_cases h0 : 0 ≤ k
  · obtain ⟨j, rfl⟩ := Int.eq_ofNat_of_zero_le h0
    by_cases h1 : j < n
    · obtain ⟨b, off, f, ca, cc, rfl, ef, hat⟩ := (hS.more hal).at h1
      have y0 := hat.params
      have i1 : (j : Int) < (n : Int) := by omega
      have i2 : (0 : Int) ≤ (j : Int) := by omega
      have eE : E = decide (f.params = p) := by
        rw [hE]
        unfold takesV parV
        simp only [Int.toNat_natCast, ef, Option.map_some, Option.getD_some]
        rw [← hln]
        simp [i1]
      by_cases h2 : f.params = p
      · have t1 : (f.params == p) = true := by simpa using h2
        have HX : Hid (Keeps None w W ∧ E = true) := ⟨hal, by rw [eE]; simpa using h2⟩
        clear eE hE hS hal bP sW hat h2 ef hln
        go_enter Tryd.func28, Tryd.ntmps28
        go_upto_region 1 with fail
        rw [← hW, ← hB]
        clear hW hB
        go_wp2
        go_ret
        exact ⟨by simp [HX.out.2], HX.out.1⟩
      · have t1 : (f.params == p) = false := by simpa using h2
        have HX : Hid (Keeps None w W ∧ E = false) := ⟨hal, by rw [eE]; simpa using h2⟩
        clear eE hE hS hal bP sW hat h2 ef hln
        go_enter Tryd.func28, Tryd.ntmps28
        go_upto_region 1 with fail
        rw [← hW, ← hB]
        clear hW hB
        go_wp2
        go_ret
        exact ⟨by simp [HX.out.2], HX.out.1⟩
    · have i1 : ¬ ((j : Int) < (n : Int)) := by omega
      have i2 : (0 : Int) ≤ (j : Int) := by omega
      have HX : Hid (Keeps None w W ∧ E = false) := ⟨hal, by
        rw [hE]
        unfold takesV
        rw [← hln]
        simp
        omega⟩
      clear hE hS hal bP sW hln
      go_enter Tryd.func28, Tryd.ntmps28
      go_upto_region 1 with fail
      rw [← hW, ← hB]
      clear hW hB
      go_wp2
      go_ret
      exact ⟨by simp [HX.out.2], HX.out.1⟩
  · have i2 : ¬ (0 : Int) ≤ k := h0
    have HX : Hid (Keeps None w W ∧ E = false) := ⟨hal, by
      rw [hE]
      unfold takesV
      simp [h0]⟩
    clear hE hS hal bP sW hln h0
    go_enter Tryd.func28, Tryd.ntmps28
    go_upto_region 1 with fail
    rw [← hW, ← hB]
    clear hW hB
    go_wp2
    go_ret
    exact ⟨by simp [HX.out.2], HX.out.1⟩

theorem firstV_cons (x : Int) (r : List Int) : firstV (x :: r) = if x = 0 then firstV r else x := by
  unfold firstV
  rw [List.find?_cons]
  by_cases h : x = 0
  · subst h; rfl
  · rw [if_neg h]
    have : (x != 0) = true := by simpa using h
    rw [this]
    rfl
def rbE (l : List Fn) (b : Int) : Int := if baseE l = 0 then bodyE l b else 130
theorem forE_at (l : List Fn) (b : Int) : forE l b = if rbE l b = 0 then roomE l else rbE l b := by
  unfold forE rbE
  rw [firstV_cons, firstV_cons, firstV_cons]
  by_cases h : baseE l = 0
  · rw [if_pos h, if_pos h]
    by_cases h2 : bodyE l b = 0
    · rw [if_pos h2, if_pos h2]
      by_cases h3 : roomE l = 0
      · rw [if_pos h3, h3]; rfl
      · rw [if_neg h3]
    · rw [if_neg h2, if_neg h2]
  · have e : baseE l = 130 := by
      unfold baseE at h ⊢
      split
      · rename_i h1; rw [if_pos h1] at h; exact absurd rfl h
      · rfl
    rw [if_neg h, if_neg h, e]
    rfl
set_option maxHeartbeats 2000000 in
theorem rbase_any (a : Option Addr) (n c : Nat) (l : List Fn) (b : Int) (w : World) (hS : SeenF w a n l) (hok : ∀ f ∈ l, f.Ok) :
    Calls Tryd.prog 22 #[.agg #[.slice a n c], .int .i64 b] w fun e w' => e = .returned (.int .i64 (rbE l b)) ∧ Keeps None w w' := by
  obtain ⟨W, B, hW, hB, bP, hal, d0, sW⟩ := box_prog w a n c
  have hck := rcheck_any a n c l W (hS.more hal) hok
  unfold checkF faultV at hck
  obtain ⟨E, hE⟩ : ∃ E, E = rbE l b := ⟨_, rfl⟩
  rw [← hE]
  by_cases h1 : (checkV l).1 = 0
  · have hcz := check_zero h1
    obtain ⟨hl1, hl2, hall⟩ := check_valid hcz
    rw [hcz] at hck
    obtain ⟨Q, hQ⟩ : ∃ Q, Q = askV l := ⟨_, rfl⟩
    obtain ⟨R, hR⟩ : ∃ R, R = takesV l b 1 := ⟨_, rfl⟩
    have eE : E = if Q = true then 130 else if R = true then 0 else 131 := by
      rw [hE, hQ, hR]
      unfold rbE baseE bodyE
      cases askV l
      · rw [if_pos (if_pos ⟨h1, rfl⟩)]; simp
      · rw [if_neg (by rw [if_neg (by simp)]; omega)]; rfl
    have hln := hS.len
    have hask : ∀ w', Keeps None W w' → Calls Tryd.prog 25 #[.agg #[.slice a n c]] w' fun e w'' => e = .returned (.bool (!Q)) ∧ Keeps None w' w'' := fun w' hk => by
      rw [hQ]
      exact pure_any a n c l w' ((hS.more hal).more hk) (by omega) (fun f hf => (valid_bounds (hall f hf)).2.2.2.2)
    have htk : ∀ w', Keeps None W w' → Calls Tryd.prog 28 #[.agg #[.slice a n c], .int .i64 b, .int .i64 1] w' fun e w'' => e = .returned (.bool R) ∧ Keeps None w' w'' := fun w' hk => by
      rw [hR]
      exact rtakes_any a n c l b 1 w' ((hS.more hal).more hk)
    have HX : Hid (Keeps None w W ∧ W.heap[B]? = some (.cells #[.slice a n c] 24 (0, 0)) ∧ E = if Q = true then 130 else if R = true then 0 else 131) := ⟨hal, bP, eE⟩
    have HA : Hid _ := hask
    have HT : Hid _ := htk
    clear hcz hl1 hl2 hall hQ hR eE hE hask htk h1 hln hS hal bP hok sW
    go_enter Tryd.func22, Tryd.ntmps22
    go_upto_region 1 with fail
    rw [← hW, ← hB]
    clear hW hB
    go_wp2_with (go_at_call 24; refine hck.mono ?_; rintro _ w3 ⟨rfl, hk3⟩)
    refine put_as (v' := .int .i64 0) rfl ?_
    simp only [Act.put, List.setIfInBounds_toArray, List.set_cons_zero, List.set_cons_succ]
    have d1 : w3.cell? ⟨B, 0, none⟩ = some (.slice a n c) := (blk_cell (blk_kept HX.out.2.1 hk3 (fun f => f)) 0).trans rfl
    have HK : Hid (Keeps None W w3) := hk3
    have hq := HA.out w3 hk3
    clear hck d0 hk3
    go_wp2_with fail
    refine hq.mono ?_
    rintro _ w4 ⟨rfl, k4⟩
    have d2 := k4.cell d1 (fun f => f)
    have HK4 : Hid (Keeps None W w4) := HK.out.trans k4 (fun _ f _ => f)
    have ht := HT.out w4 HK4.out
    clear hq k4 d1
    cases Q
    · go_wp2_with fail
      refine ht.mono ?_
      rintro _ w5 ⟨rfl, k5⟩
      have HK5 : Hid (Keeps None w w5) := (HX.out.1.trans HK4.out (fun _ f _ => f)).trans k5 (fun _ f _ => f)
      clear ht k5 d2
      cases R
      · go_wp2
        go_ret
        exact ⟨by rw [HX.out.2.2]; rfl, HK5.out⟩
      · go_wp2
        go_ret
        exact ⟨by rw [HX.out.2.2]; rfl, HK5.out⟩
    · go_wp2
      go_ret
      exact ⟨by rw [HX.out.2.2]; rfl, HX.out.1.trans HK4.out (fun _ f _ => f)⟩
  · have eE : E = 130 := by
      rw [hE]
      unfold rbE baseE
      rw [if_neg (by rw [if_neg (fun h => h1 h.1)]; omega)]
    obtain ⟨⟨k1, k2, k3⟩, hcv⟩ : ∃ cv, cv = checkV l := ⟨_, rfl⟩
    rw [← hcv] at h1 hck
    clear hcv
    simp only at h1 hck
    have t1 : (k1 != 0) = true := by simpa using h1
    have HX : Hid (Keeps None w W ∧ E = 130) := ⟨hal, eE⟩
    clear eE hE h1 hS hal bP hok sW
    go_enter Tryd.func22, Tryd.ntmps22
    go_upto_region 1 with fail
    rw [← hW, ← hB]
    clear hW hB
    go_wp2_with (go_at_call 24; refine hck.mono ?_; rintro _ w3 ⟨rfl, hk3⟩)
    refine put_as (v' := .int .i64 k1) rfl ?_
    simp only [Act.put, List.setIfInBounds_toArray, List.set_cons_zero, List.set_cons_succ]
    have HK : Hid (Keeps None w w3) := HX.out.1.trans hk3 (fun _ f _ => f)
    clear hck d0 hk3
    go_wp2
    go_ret
    exact ⟨by rw [HX.out.2]; rfl, HK.out⟩
set_option maxHeartbeats 2000000 in
theorem rfor_any (a : Option Addr) (n c : Nat) (l : List Fn) (b : Int) (w : World) (hS : SeenF w a n l) (hok : ∀ f ∈ l, f.Ok) :
    Calls Tryd.prog 9 #[.agg #[.slice a n c], .int .i64 b] w fun e w' => e = .returned (.int .i64 (forE l b)) ∧ Keeps None w w' := by
  obtain ⟨W, B, hW, hB, bP, hal, d0, sW⟩ := box_prog w a n c
  have hb := rbase_any a n c l b W (hS.more hal) hok
  rw [forE_at]
  have hln := hS.len
  obtain ⟨E, hE⟩ : ∃ E, E = rbE l b := ⟨_, rfl⟩
  rw [← hE] at hb ⊢
  obtain ⟨R, hR⟩ : ∃ R, R = roomE l := ⟨_, rfl⟩
  rw [← hR]
  have HX : Hid (Keeps None w W ∧ W.heap[B]? = some (.cells #[.slice a n c] 24 (0, 0)) ∧ R = roomE l ∧ n = l.length) := ⟨hal, bP, hR, hln⟩
  clear hE hS hal bP hok sW hR hln
  by_cases h0 : E = 0
  · have t0 : (E != 0) = false := by simp [h0]
    rw [if_pos h0]
    clear h0
    by_cases h28 : n ≤ 28
    · have i1 : ¬ ((28 : Int) < (n : Int)) := by omega
      have eR : R = 0 := by rw [HX.out.2.2.1]; unfold roomE; rw [if_pos (by rw [← HX.out.2.2.2]; exact h28)]
      subst eR
      go_enter Tryd.func9, Tryd.ntmps9
      go_upto_region 1 with fail
      rw [← hW, ← hB]
      clear hW hB
      go_wp2_with fail
      refine hb.mono ?_
      rintro _ w3 ⟨rfl, hk3⟩
      have d1 : w3.cell? ⟨B, 0, none⟩ = some (.slice a n c) := (blk_cell (blk_kept HX.out.2.1 hk3 (fun f => f)) 0).trans rfl
      have HK : Hid (Keeps None w w3) := HX.out.1.trans hk3 (fun _ f _ => f)
      clear hb d0 hk3
      go_wp2
      go_ret
      exact ⟨rfl, HK.out⟩
    · have i1 : (28 : Int) < (n : Int) := by omega
      have eR : R = 133 := by rw [HX.out.2.2.1]; unfold roomE; rw [if_neg (by rw [← HX.out.2.2.2]; exact h28)]
      subst eR
      go_enter Tryd.func9, Tryd.ntmps9
      go_upto_region 1 with fail
      rw [← hW, ← hB]
      clear hW hB
      go_wp2_with fail
      refine hb.mono ?_
      rintro _ w3 ⟨rfl, hk3⟩
      have d1 : w3.cell? ⟨B, 0, none⟩ = some (.slice a n c) := (blk_cell (blk_kept HX.out.2.1 hk3 (fun f => f)) 0).trans rfl
      have HK : Hid (Keeps None w w3) := HX.out.1.trans hk3 (fun _ f _ => f)
      clear hb d0 hk3
      go_wp2
      go_ret
      exact ⟨rfl, HK.out⟩
  · have t0 : (E != 0) = true := by simp [h0]
    rw [if_neg h0]
    clear h0
    go_enter Tryd.func9, Tryd.ntmps9
    go_upto_region 1 with fail
    rw [← hW, ← hB]
    clear hW hB
    go_wp2_with fail
    refine hb.mono ?_
    rintro _ w3 ⟨rfl, hk3⟩
    have HK : Hid (Keeps None w w3) := HX.out.1.trans hk3 (fun _ f _ => f)
    clear hb d0 hk3
    go_wp2
    go_ret
    exact ⟨rfl, HK.out⟩
theorem redE_at (l : List Fn) (b c : Int) : redE l b c = if rbE l b = 0 then (if combE l c = 0 then roomE l else combE l c) else rbE l b := by
  unfold redE rbE
  rw [firstV_cons, firstV_cons, firstV_cons, firstV_cons]
  by_cases h : baseE l = 0
  · rw [if_pos h, if_pos h]
    by_cases h2 : bodyE l b = 0
    · rw [if_pos h2, if_pos h2]
      by_cases h4 : combE l c = 0
      · rw [if_pos h4, if_pos h4]
        by_cases h3 : roomE l = 0
        · rw [if_pos h3, h3]; rfl
        · rw [if_neg h3]
      · rw [if_neg h4, if_neg h4]
    · rw [if_neg h2, if_neg h2]
  · have e : baseE l = 130 := by
      unfold baseE at h ⊢
      split
      · rename_i h1; rw [if_pos h1] at h; exact absurd rfl h
      · rfl
    rw [if_neg h, if_neg h, e]
    rfl
set_option maxHeartbeats 2000000 in
theorem rred_any (a : Option Addr) (n c : Nat) (l : List Fn) (b k : Int) (w : World) (hS : SeenF w a n l) (hok : ∀ f ∈ l, f.Ok) :
    Calls Tryd.prog 16 #[.agg #[.slice a n c], .int .i64 b, .int .i64 k] w fun e w' => e = .returned (.int .i64 (redE l b k)) ∧ Keeps None w w' := by
  obtain ⟨W, B, hW, hB, bP, hal, d0, sW⟩ := box_prog w a n c
  have hb := rbase_any a n c l b W (hS.more hal) hok
  rw [redE_at]
  have hln := hS.len
  obtain ⟨E, hE⟩ : ∃ E, E = rbE l b := ⟨_, rfl⟩
  rw [← hE] at hb ⊢
  obtain ⟨R, hR⟩ : ∃ R, R = roomE l := ⟨_, rfl⟩
  rw [← hR]
  obtain ⟨D, hD⟩ : ∃ D, D = combE l k := ⟨_, rfl⟩
  rw [← hD]
  obtain ⟨T, hT⟩ : ∃ T, T = takesV l k 2 := ⟨_, rfl⟩
  have hDT : D = if T = true then 0 else 132 := by rw [hD, hT]; rfl
  have htk : ∀ w', Keeps None W w' → Calls Tryd.prog 28 #[.agg #[.slice a n c], .int .i64 k, .int .i64 2] w' fun e w'' => e = .returned (.bool T) ∧ Keeps None w' w'' := fun w' hk => by
    rw [hT]
    exact rtakes_any a n c l k 2 w' ((hS.more hal).more hk)
  have HT : Hid _ := htk
  have HX : Hid (Keeps None w W ∧ W.heap[B]? = some (.cells #[.slice a n c] 24 (0, 0)) ∧ R = roomE l ∧ n = l.length ∧ D = if T = true then 0 else 132) := ⟨hal, bP, hR, hln, hDT⟩
  clear hE hS hal bP hok sW hR hln hD hT hDT htk
  by_cases h0 : E = 0
  · have t0 : (E != 0) = false := by simp [h0]
    rw [if_pos h0]
    clear h0
    go_enter Tryd.func16, Tryd.ntmps16
    go_upto_region 1 with fail
    rw [← hW, ← hB]
    clear hW hB
    go_wp2_with fail
    refine hb.mono ?_
    rintro _ w3 ⟨rfl, hk3⟩
    have d1 : w3.cell? ⟨B, 0, none⟩ = some (.slice a n c) := (blk_cell (blk_kept HX.out.2.1 hk3 (fun f => f)) 0).trans rfl
    have ht := HT.out w3 hk3
    have HK : Hid (Keeps None W w3) := hk3
    clear hb d0 hk3
    go_wp2_with fail
    refine ht.mono ?_
    rintro _ w4 ⟨rfl, k4⟩
    have d2 := k4.cell d1 (fun f => f)
    have HK4 : Hid (Keeps None w w4) := (HX.out.1.trans HK.out (fun _ f _ => f)).trans k4 (fun _ f _ => f)
    clear ht k4 d1
    cases T
    · have eD : D = 132 := HX.out.2.2.2.2
      subst eD
      go_wp2
      go_ret
      exact ⟨rfl, HK4.out⟩
    · have eD : D = 0 := HX.out.2.2.2.2
      subst eD
      by_cases h28 : n ≤ 28
      · have i1 : ¬ ((28 : Int) < (n : Int)) := by omega
        have eR : R = 0 := by rw [HX.out.2.2.1]; unfold roomE; rw [if_pos (by rw [← HX.out.2.2.2.1]; exact h28)]
        subst eR
        go_wp2
        go_ret
        exact ⟨rfl, HK4.out⟩
      · have i1 : (28 : Int) < (n : Int) := by omega
        have eR : R = 133 := by rw [HX.out.2.2.1]; unfold roomE; rw [if_neg (by rw [← HX.out.2.2.2.1]; exact h28)]
        subst eR
        go_wp2
        go_ret
        exact ⟨rfl, HK4.out⟩
  · have t0 : (E != 0) = true := by simp [h0]
    rw [if_neg h0]
    clear h0
    go_enter Tryd.func16, Tryd.ntmps16
    go_upto_region 1 with fail
    rw [← hW, ← hB]
    clear hW hB
    go_wp2_with fail
    refine hb.mono ?_
    rintro _ w3 ⟨rfl, hk3⟩
    have HK : Hid (Keeps None w w3) := HX.out.1.trans hk3 (fun _ f _ => f)
    clear hb d0 hk3
    go_wp2
    go_ret
    exact ⟨rfl, HK.out⟩
end Go.Proofs.YtiibflbfnoddmaaDoor
/-! The programs that parlib makes are valid where their base is. -/
namespace Go.Proofs.YtiibflbfnoddmaaDoor
set_option linter.unusedVariables false
set_option maxRecDepth 20000
open Go.RowKit Go.PlainOps

def madeP (l : List Fn) (e r : Fn) : List Fn := e :: r :: l.map shF
theorem madeP_len (l : List Fn) (e r : Fn) : (madeP l e r).length = l.length + 2 := by simp [madeP]
theorem madeP_at (l : List Fn) (e r : Fn) (k : Nat) : (madeP l e r)[k + 2]? = (l[k]?).map shF := by simp [madeP]
theorem shI_kind (i : Ins) : (shI i).kind = i.kind := by unfold shI; split <;> rfl
theorem shI_a (i : Ins) : (shI i).a = i.a := by unfold shI; split <;> rfl
theorem shI_c (i : Ins) : (shI i).c = i.c := by unfold shI; split <;> rfl
theorem shI_k (i : Ins) : (shI i).k = i.k := by unfold shI; split <;> rfl
theorem shI_b {i : Ins} (h : i.kind ≠ 5) : (shI i).b = i.b := by unfold shI; rw [if_neg h]
theorem shI_b5 {i : Ins} (h : i.kind = 5) : (shI i).b = i.b + 2 := by unfold shI; rw [if_pos h]
theorem shI_same {i : Ins} (h : i.kind ≠ 5) : shI i = i := by unfold shI; rw [if_neg h]
theorem par_made {l : List Fn} {e r : Fn} {b : Int} (hb : 0 ≤ b) : parV (madeP l e r) (b + 2) = parV l b := by
  unfold parV
  rw [show (b + 2).toNat = b.toNat + 2 by omega, madeP_at]
  cases l[b.toNat]? <;> rfl
theorem code_made {l : List Fn} {e r : Fn} {b : Int} (hb : 0 ≤ b) : codeOf (madeP l e r) (b + 2) = (codeOf l b).map shI := by
  unfold codeOf
  rw [show (b + 2).toNat = b.toNat + 2 by omega, madeP_at]
  cases l[b.toNat]? <;> rfl
theorem after_sh (i : Ins) (slot st : Int) : afterV (shI i) slot st = afterV i slot st := by unfold afterV; rw [shI_kind, shI_a]
theorem exits_sh (at_ : Int) (i : Ins) : exitsV at_ (shI i) = exitsV at_ i := by
  unfold exitsV
  rw [shI_kind, shI_a]
  by_cases h : i.kind = 5
  · rw [h]; rfl
  · rw [shI_b h]
theorem run_sh (f : Fn) (slot : Int) (goal : Pt) : ∀ (k : Nat) (fr op : List Pt), runS (shF f) slot goal k fr op = runS f slot goal k fr op
  | 0, _, _ => by cases ‹List Pt› <;> rfl
  | k + 1, fr, [] => rfl
  | k + 1, fr, h :: t => by
    simp only [runS, shF, List.getElem?_map]
    cases f.code[h.1.toNat]? with
    | none => rfl
    | some i =>
      simp only [Option.map_some, after_sh, exits_sh]
      split
      · rfl
      · exact run_sh f slot goal k _ _
theorem search_sh (f : Fn) (slot : Int) (goal : Pt) : searchV (shF f) slot goal = searchV f slot goal := by
  unfold searchV
  rw [run_sh]
  simp [shF]
theorem row_sh (f : Fn) (n : Nat) : rowV (shF f) n = rowV f n := by
  unfold rowV
  simp only [search_sh]
  rfl
theorem misuse_sh (i : Ins) (row : List Int) : misuseV (shI i) row = misuseV i row := by
  unfold misuseV
  rw [shI_kind, shI_a]
  by_cases h : i.kind = 5
  · rw [if_pos h, if_pos h]
  · rw [shI_b h]
theorem fits_sh {l : List Fn} {e r f : Fn} {i : Ins} (h : fitsV false l f i = true) : fitsV false (madeP l e r) (shF f) (shI i) = true := by
  have hk := fits_kind h
  have hl : (shF f).code.length = f.code.length := by simp [shF]
  have hr : (shF f).regs = f.regs := rfl
  have hs : (shF f).slots = f.slots := rfl
  unfold fitsV at h ⊢
  by_cases h5 : i.kind = 5
  · simp only [shI_kind, shI_a, shI_c, shI_k, shI_b5 h5, h5] at h ⊢
    simp [fA, fB, fC, fK, allowsV, belowV, holdsV, hr, hs] at h ⊢
    obtain ⟨h1, h2⟩ := h
    have hb : 0 ≤ i.b ∧ i.b < (l.length : Int) := by omega
    rw [shI_b5 h5, par_made hb.1, madeP_len]
    refine ⟨⟨h1.1, by omega⟩, h2⟩
  · rw [shI_same h5]
    have ha : ∀ what x, what ≠ 4 → what ≠ 5 → allowsV false (madeP l e r) (shF f) what x i = allowsV false l f what x i := fun what x h4 h5' => by
      unfold allowsV
      rw [hr, hs, hl]
      simp [h4, h5']
    have hkk : i.kind = 0 ∨ i.kind = 1 ∨ i.kind = 2 ∨ i.kind = 3 ∨ i.kind = 4 ∨ i.kind = 6 ∨ i.kind = 7 ∨ i.kind = 8 ∨ i.kind = 9 := by omega
    have hne : ∀ n : Nat, n = 0 ∨ n = 1 ∨ n = 2 ∨ n = 3 ∨ n = 4 ∨ n = 6 ∨ n = 7 ∨ n = 8 ∨ n = 9 → fA n ≠ 4 ∧ fA n ≠ 5 ∧ fB n ≠ 4 ∧ fB n ≠ 5 ∧ fC n ≠ 4 ∧ fC n ≠ 5 := by
      rintro n (rfl | rfl | rfl | rfl | rfl | rfl | rfl | rfl | rfl) <;> decide
    obtain ⟨n1, n2, n3, n4, n5, n6⟩ := hne i.kind.toNat (by omega)
    rw [ha _ _ n1 n2, ha _ _ n3 n4, ha _ _ n5 n6]
    exact h
theorem valid_sh {l : List Fn} {e r f : Fn} (h : Valid l f) : Valid (madeP l e r) (shF f) := by
  have hlen : (shF f).code.length = f.code.length := by simp [shF]
  refine ⟨?_, ?_, ?_⟩
  · have := h.shape
    unfold shapeV at this ⊢
    rw [hlen]
    exact this
  · have hc := h.code
    unfold codeFault at hc ⊢
    split at hc
    · cases hc
    · rename_i h1
      have h2 := firstAt_all _ _ _ h1
      rw [firstAt_none]
      · simp only
        have hro : runsOut (shF f) = runsOut f := by
          unfold runsOut
          rw [hlen]
          simp only [shF, List.getElem?_map]
          cases f.code[f.code.length - 1]? with
          | none => rfl
          | some i => simp only [Option.map_some, shI_kind]
        rw [hro]
        split at hc
        · cases hc
        · rename_i h3
          rw [if_neg h3]
      · intro j y hy
        simp only [shF, List.getElem?_map, Option.map_eq_some_iff] at hy
        obtain ⟨i, hi, rfl⟩ := hy
        have h4 := h2 j i hi
        split at h4
        · rename_i h5
          rw [if_pos (fits_sh h5)]
        · cases h4
  · have hc := h.slot
    unfold slotFault at hc ⊢
    simp only [Option.map_eq_none_iff] at hc ⊢
    have h2 := firstAt_all _ _ _ hc
    rw [firstAt_none]
    intro j y hy
    simp only [shF, List.getElem?_map, Option.map_eq_some_iff] at hy
    obtain ⟨i, hi, rfl⟩ := hy
    have h4 := h2 j i hi
    rw [misuse_sh, row_sh]
    exact h4
theorem valid_chk {l : List Fn} (h0 : 1 ≤ l.length ∧ l.length ≤ 32) (h : ∀ f ∈ l, Valid l f) : checkV l = (0, 0, 0) := by
  unfold checkV
  rw [if_neg (by omega), firstAt_none]
  · simp only
    rw [firstAt_none]
    · simp only
      rw [firstAt_none]
      intro j y hy
      exact (h y (List.mem_of_getElem? hy)).slot
    · intro j y hy
      exact (h y (List.mem_of_getElem? hy)).code
  · intro j y hy
    rw [if_pos (h y (List.mem_of_getElem? hy)).shape]
theorem check_made {l : List Fn} {e r : Fn} (h : checkV l = (0, 0, 0)) (hl : l.length ≤ 28) (he : Valid (madeP l e r) e) (hr : Valid (madeP l e r) r) : checkV (madeP l e r) = (0, 0, 0) := by
  obtain ⟨h1, h2, h3⟩ := check_valid h
  refine valid_chk (by rw [madeP_len]; omega) fun f hf => ?_
  unfold madeP at hf
  rcases List.mem_cons.1 hf with rfl | hf
  · exact he
  · rcases List.mem_cons.1 hf with rfl | hf
    · exact hr
    · obtain ⟨g, hg, rfl⟩ := List.mem_map.1 hf
      exact valid_sh (h3 g hg)
/-- A code that fits, told instruction by instruction. -/
theorem code_fits {fs : List Fn} {f : Fn} (h : ∀ i ∈ f.code, fitsV false fs f i = true) (hr : runsOut f = false) : codeFault false fs f = none := by
  unfold codeFault
  rw [firstAt_none]
  · simp [hr]
  · intro j y hy
    rw [if_pos (h y (List.mem_of_getElem? hy))]
/-- A spawn fits. -/
theorem spawn_fits {fs : List Fn} {f : Fn} {a b c p : Int} (hb : 0 ≤ b ∧ b < fs.length) (hp : parV fs b = p) (ha : 0 ≤ a ∧ a < f.slots) (hc : 0 ≤ c ∧ p ≤ f.regs - c) : fitsV false fs f ⟨5, a, b, c, 0⟩ = true := by
  unfold fitsV allowsV belowV holdsV
  simp [fA, fB, fC, fK, hp]
  omega
/-- What is no spawn fits, whatever the program. -/
theorem other_fits {fs : List Fn} {f : Fn} {i : Ins} (h5 : i.kind ≠ 5) (h : fitsV true [] f i = true) : fitsV false fs f i = true := by
  have hk := fits_kind h
  unfold fitsV at h ⊢
  have hkk : i.kind = 0 ∨ i.kind = 1 ∨ i.kind = 2 ∨ i.kind = 3 ∨ i.kind = 4 ∨ i.kind = 6 ∨ i.kind = 7 ∨ i.kind = 8 ∨ i.kind = 9 := by omega
  have hne : ∀ n : Nat, n = 0 ∨ n = 1 ∨ n = 2 ∨ n = 3 ∨ n = 4 ∨ n = 6 ∨ n = 7 ∨ n = 8 ∨ n = 9 → fA n ≠ 4 ∧ fA n ≠ 5 ∧ fB n ≠ 4 ∧ fB n ≠ 5 ∧ fC n ≠ 4 ∧ fC n ≠ 5 := by
    rintro n (rfl | rfl | rfl | rfl | rfl | rfl | rfl | rfl | rfl) <;> decide
  obtain ⟨n1, n2, n3, n4, n5, n6⟩ := hne i.kind.toNat (by omega)
  have ha : ∀ what x, what ≠ 4 → what ≠ 5 → allowsV false fs f what x i = allowsV true [] f what x i := fun what x h4 h5' => by
    unfold allowsV
    simp [h4, h5']
  rw [ha _ _ n1 n2, ha _ _ n3 n4, ha _ _ n5 n6]
  exact h
theorem par_one {l : List Fn} {e r : Fn} : parV (madeP l e r) 1 = r.params := rfl
theorem ent_valid (l : List Fn) (u : Int) (r : Fn) (hp : r.params = 3) : Valid (madeP l (entF u) r) (entF u) := by
  refine ⟨by kernel_rfl, code_fits (fun i hi => ?_) (by kernel_rfl), by kernel_rfl⟩
  by_cases h5 : i.kind = 5
  · simp [entF, entC] at hi
    rcases hi with rfl | rfl | rfl | rfl | rfl | rfl | rfl | rfl | rfl | rfl | rfl
    all_goals first | (refine absurd h5 ?_; simp; done) | exact spawn_fits (p := 3) ⟨by omega, by rw [madeP_len]; omega⟩ (by rw [par_one, hp]) (by simp [entF]) (by simp [entF])
  · refine other_fits h5 ?_
    simp [entF, entC] at hi
    rcases hi with rfl | rfl | rfl | rfl | rfl | rfl | rfl | rfl | rfl | rfl | rfl
    all_goals first | rfl | exact absurd rfl h5
theorem forR_valid (l : List Fn) (b : Int) (hb : 0 ≤ b ∧ b < l.length) (hp : parV l b = 1) : Valid (forP l b) (rnF (lfC (b + 2) 0 []) (hvC [])) := by
  refine ⟨by kernel_rfl, code_fits (fun i hi => ?_) (by kernel_rfl), by kernel_rfl⟩
  have hm : forP l b = madeP l (entF 0) (rnF (lfC (b + 2) 0 []) (hvC [])) := rfl
  by_cases h5 : i.kind = 5
  · rw [hm]
    simp [rnF, rnC, choC, lfC, hvC] at hi
    rcases hi with rfl | rfl | rfl | rfl | rfl | rfl | rfl | rfl | rfl | rfl | rfl | rfl | rfl | rfl | rfl | rfl | rfl | rfl | rfl | rfl | rfl
    all_goals first
      | (refine absurd h5 ?_; simp; done)
      | exact spawn_fits (p := 1) ⟨by omega, by rw [madeP_len]; omega⟩ (by rw [par_made hb.1, hp]) (by simp [rnF]) (by simp [rnF])
      | exact spawn_fits (p := 3) ⟨by omega, by rw [madeP_len]; omega⟩ rfl (by simp [rnF]) (by simp [rnF])
  · refine other_fits h5 ?_
    simp [rnF, rnC, choC, lfC, hvC] at hi
    rcases hi with rfl | rfl | rfl | rfl | rfl | rfl | rfl | rfl | rfl | rfl | rfl | rfl | rfl | rfl | rfl | rfl | rfl | rfl | rfl | rfl | rfl
    all_goals first | rfl | exact absurd rfl h5
/-- For's program is valid. -/
theorem for_check {l : List Fn} {b : Int} (h : checkV l = (0, 0, 0)) (hl : l.length ≤ 28) (hb : 0 ≤ b ∧ b < l.length) (hp : parV l b = 1) : checkV (forP l b) = (0, 0, 0) :=
  check_made h hl (ent_valid l 0 _ rfl) (forR_valid l b hb hp)
theorem redR_valid (l : List Fn) (b c u : Int) (hb : 0 ≤ b ∧ b < l.length) (hp : parV l b = 1) (hc : 0 ≤ c ∧ c < l.length) (hp2 : parV l c = 2) : Valid (redP l b c u) (rnF (lfC (b + 2) u (mgC (c + 2) [⟨7, 7, 0, 0, 0⟩])) (hvC (mgC (c + 2) [⟨7, 6, 0, 0, 0⟩, ⟨7, 7, 1, 0, 0⟩]))) := by
  refine ⟨by kernel_rfl, code_fits (fun i hi => ?_) (by kernel_rfl), by kernel_rfl⟩
  have hm : redP l b c u = madeP l (entF u) (rnF (lfC (b + 2) u (mgC (c + 2) [⟨7, 7, 0, 0, 0⟩])) (hvC (mgC (c + 2) [⟨7, 6, 0, 0, 0⟩, ⟨7, 7, 1, 0, 0⟩]))) := rfl
  by_cases h5 : i.kind = 5
  · rw [hm]
    simp [rnF, rnC, choC, lfC, hvC, mgC] at hi
    rcases hi with rfl | rfl | rfl | rfl | rfl | rfl | rfl | rfl | rfl | rfl | rfl | rfl | rfl | rfl | rfl | rfl | rfl | rfl | rfl | rfl | rfl | rfl | rfl | rfl | rfl | rfl | rfl | rfl | rfl | rfl
    all_goals first
      | (refine absurd h5 ?_; simp; done)
      | exact spawn_fits (p := 1) ⟨by omega, by rw [madeP_len]; omega⟩ (by rw [par_made hb.1, hp]) (by simp [rnF]) (by simp [rnF])
      | exact spawn_fits (p := 2) ⟨by omega, by rw [madeP_len]; omega⟩ (by rw [par_made hc.1, hp2]) (by simp [rnF]) (by simp [rnF])
      | exact spawn_fits (p := 3) ⟨by omega, by rw [madeP_len]; omega⟩ rfl (by simp [rnF]) (by simp [rnF])
  · refine other_fits h5 ?_
    simp [rnF, rnC, choC, lfC, hvC, mgC] at hi
    rcases hi with rfl | rfl | rfl | rfl | rfl | rfl | rfl | rfl | rfl | rfl | rfl | rfl | rfl | rfl | rfl | rfl | rfl | rfl | rfl | rfl | rfl | rfl | rfl | rfl | rfl | rfl | rfl | rfl | rfl | rfl
    all_goals first | rfl | exact absurd rfl h5
/-- Reduce's program is valid. -/
theorem red_check {l : List Fn} {b c u : Int} (h : checkV l = (0, 0, 0)) (hl : l.length ≤ 28) (hb : 0 ≤ b ∧ b < l.length) (hp : parV l b = 1) (hc : 0 ≤ c ∧ c < l.length) (hp2 : parV l c = 2) : checkV (redP l b c u) = (0, 0, 0) :=
  check_made h hl (ent_valid l u _ rfl) (redR_valid l b c u hb hp hc hp2)
end Go.Proofs.YtiibflbfnoddmaaDoor
/-! The statements' own 'shaped', where it says yes. -/
namespace Go.Proofs.YtiibflbfnoddmaaDoor
set_option linter.unusedVariables false
set_option maxRecDepth 20000
open Go.RowKit Go.HeapKit Go.PlainOps

set_option maxHeartbeats 2000000 in
theorem shaped_any (a : Option Addr) (n c : Nat) (a' : Option Addr) (n' c' : Nat) (l l' : List Fn) (w : World) (hS : SeenF w a n l) (hS' : SeenF w a' n' l') (hn' : n' = n + 2) (hn : n ≤ 28) (hok : ∀ f ∈ l', f.Ok) (hck : checkV l' = (0, 0, 0)) (hask : askV l' = false) (f0 : Fn) (h0 : l'[0]? = some f0) (hp0 : f0.params = 2)
    (hsh : ∀ (k : Nat) f, l[k]? = some f → f.code.length ≤ 512 ∧ l'[k + 2]? = some { f with code := f.code.map (bmI 2) }) :
    Calls Tryd.prog 14 #[.agg #[.slice a n c], .agg #[.slice a' n' c']] w fun e w' => e = .returned (.bool true) ∧ Keeps None w w' := by
  obtain ⟨b1, b2⟩ := two_boxes w #[.slice a n c] #[.slice a' n' c'] 24 24
  have hk := keeps2 w (.cells #[.slice a n c] 24) (.cells #[.slice a' n' c'] 24)
  obtain ⟨wa, hwa⟩ : ∃ wa, wa = (w.alloc (.cells #[.slice a n c] 24)).alloc (.cells #[.slice a' n' c'] 24) := ⟨_, rfl⟩
  obtain ⟨B, hB⟩ : ∃ B, B = w.heap.size := ⟨_, rfl⟩
  rw [← hwa] at b1 b2 hk
  rw [← hB] at b1 b2
  have d0 : wa.cell? ⟨B, 0, none⟩ = some (.slice a n c) := (cell_of_heap b1 0).trans rfl
  have e0 : wa.cell? ⟨B + 1, 0, none⟩ = some (.slice a' n' c') := (cell_of_heap b2 0).trans rfl
  have hrc := rcheck_any a' n' c' l' wa (hS'.more hk) hok
  unfold checkF faultV at hrc
  rw [hck] at hrc
  obtain ⟨v1, v2, v3⟩ := check_valid hck
  have hln' := hS'.len
  have hpu : ∀ w', Keeps None wa w' → Calls Tryd.prog 25 #[.agg #[.slice a' n' c']] w' fun e w'' => e = .returned (.bool true) ∧ Keeps None w' w'' := fun w' hk' => by
    have := pure_any a' n' c' l' w' ((hS'.more hk).more hk') (by omega) (fun f hf => (valid_bounds (v3 f hf)).2.2.2.2)
    rw [hask] at this
    exact this
  have HP : Hid _ := hpu
  have HC : Hid (SeenF wa a n l ∧ SeenF wa a' n' l' ∧ Keeps None w wa ∧ wa.heap[B]? = some (.cells #[.slice a n c] 24 (0, 0)) ∧ wa.heap[B + 1]? = some (.cells #[.slice a' n' c'] 24 (0, 0)) ∧ (∀ (k : Nat) f, l[k]? = some f → f.code.length ≤ 512 ∧ l'[k + 2]? = some { f with code := f.code.map (bmI 2) }) ∧ l'[0]? = some f0 ∧ f0.params = 2) := ⟨hS.more hk, hS'.more hk, hk, b1, b2, hsh, h0, hp0⟩
  subst hn'
  clear hS hS' hk b1 b2 hok hck hask h0 hp0 hsh v1 v2 v3 hln' hpu
  have i9 : (n : Int) ≤ 28 := by omega
  go_enter Tryd.func14, Tryd.ntmps14
  go_upto_region 1 with fail
  rw [← hwa, ← hB]
  clear hwa hB
  go_upto_region 2 with fail
  rw [show ((n : Int) + 2 - (n : Int)) = 2 by omega]
  go_wp2_with (go_at_call 24; refine hrc.mono ?_; rintro _ w3 ⟨rfl, hk3⟩)
  refine put_as (v' := .int .i64 0) rfl ?_
  simp only [Act.put, List.setIfInBounds_toArray, List.set_cons_zero, List.set_cons_succ]
  have e3 := hk3.cell e0 (fun f => f)
  have hp := HP.out w3 hk3
  have HK3 : Hid (Keeps None wa w3) := hk3
  clear hrc d0 e0 hk3
  go_wp2_with fail
  refine hp.mono ?_
  rintro _ w4 ⟨rfl, hk4⟩
  have k4 : Keeps None wa w4 := HK3.out.trans hk4 (fun _ f _ => f)
  have d4 : w4.cell? ⟨B, 0, none⟩ = some (.slice a n c) := (cell_of_heap (blk_kept HC.out.2.2.2.1 k4 (fun f => f)) 0).trans rfl
  have e4 : w4.cell? ⟨B + 1, 0, none⟩ = some (.slice a' (n + 2) c') := (cell_of_heap (blk_kept HC.out.2.2.2.2.1 k4 (fun f => f)) 0).trans rfl
  obtain ⟨b, off, f, ca, cc, rfl, hf, hat⟩ := (HC.out.2.1.more k4).at (k := 0) (by omega)
  have ef : f = f0 := by rw [HC.out.2.2.2.2.2.2.1] at hf; exact (Option.some.inj hf).symm
  have q0 := hat.params
  rw [ef, HC.out.2.2.2.2.2.2.2, Nat.zero_mul, Nat.add_zero] at q0
  have i3 : (0 : Int) < (n : Int) + 2 := by omega
  have HK4 : Hid (Keeps None wa w4) := k4
  clear hp e3 hk4 k4 hf hat ef
  go_wp2_with fail
  clear q0 d4 e4
  go_loopw [6] (fun s6 wr => ∃ k : Nat, k ≤ n ∧ s6 = .int .i64 k ∧ Keeps None wa wr) (fun i _ => n - (intOf i).toNat)
  case atStart => exact ⟨0, Nat.zero_le _, rfl, HK4.out⟩
  case round =>
    obtain ⟨k, hk, rfl, hkp⟩ := hrel
    have d0 : wr.cell? ⟨B, 0, none⟩ = some (.slice a n c) := (cell_of_heap (blk_kept HC.out.2.2.2.1 hkp (fun f => f)) 0).trans rfl
    have e0 : wr.cell? ⟨B + 1, 0, none⟩ = some (.slice (some ⟨b, off, none⟩) (n + 2) c') := (cell_of_heap (blk_kept HC.out.2.2.2.2.1 hkp (fun f => f)) 0).trans rfl
    by_cases hkn : k < n
    · obtain ⟨b1, off1, f, ca1, cc1, rfl, hf, hat⟩ := (HC.out.1.more hkp).at hkn
      obtain ⟨b', off', f', ca', cc', eb, hf', hat'⟩ := (HC.out.2.1.more hkp).at (k := k + 2) (by omega)
      injection eb with eb
      injection eb with eb1 eb2
      subst eb1 eb2
      obtain ⟨hl5, hsh⟩ := HC.out.2.2.2.2.2.1 k f hf
      rw [hsh] at hf'
      obtain rfl := Option.some.inj hf'
      have i1 : (k : Int) < (n : Int) := by omega
      have i2 : (k : Int) + 2 < (n : Int) + 2 := by omega
      have i4 : (0 : Int) ≤ (k : Int) + 2 := by omega
      have i5 : (0 : Int) ≤ (k : Int) := by omega
      have iw : IntKind.i64.wrap (2 + (k : Int)) = (k : Int) + 2 := by rw [IntKind.wrap_i64]; omega
      have it : ((k : Int) + 2).toNat = k + 2 := by omega
      have hdr := Keeps.drew None wr
      have hs' := hat'.seen
      simp only [List.length_map] at hs'
      have hsf := sameFunc_any f (f.code.map (bmI 2)) 2 ca1 cc1 ca' cc' wr.drew (hat.seen.more hdr) (hs'.more hdr) rfl (by omega)
      unfold fnV at hsf
      obtain ⟨y0, y1, y2, y3, -⟩ := hat
      obtain ⟨u0, u1, u2, u3, -⟩ := hat'
      simp only [List.length_map] at u0 u1 u2 u3
      have HK : Hid (Keeps None wa wr) := hkp
      obtain ⟨m, hm⟩ : ∃ m, m = f.code.length := ⟨_, rfl⟩
      rw [← hm] at hsf y3 u3
      clear hkp hf hm hdr hl5 hsh hs'
      go_upto_region 7 with fail
      go_cut [60] (fun s60 wx => s60 = .bool false ∧ Keeps None wr wx)
      case first =>
        go_region_held3 (fun w' => w'.cell? ⟨B, 0, none⟩ = some (.slice (some ⟨b1, off1, none⟩) n c) ∧ w'.cell? ⟨B + 1, 0, none⟩ = some (.slice (some ⟨b, off, none⟩) (n + 2) c') ∧ w'.cell? ⟨b1, off1 + k * 4, none⟩ = some (.int .i64 f.params) ∧ w'.cell? ⟨b1, off1 + k * 4 + 1, none⟩ = some (.int .i64 f.regs) ∧ w'.cell? ⟨b1, off1 + k * 4 + 2, none⟩ = some (.int .i64 f.slots) ∧ w'.cell? ⟨b1, off1 + k * 4 + 3, none⟩ = some (.slice ca1 m cc1) ∧ w'.cell? ⟨b, off + (k + 2) * 4, none⟩ = some (.int .i64 f.params) ∧ w'.cell? ⟨b, off + (k + 2) * 4 + 1, none⟩ = some (.int .i64 f.regs) ∧ w'.cell? ⟨b, off + (k + 2) * 4 + 2, none⟩ = some (.int .i64 f.slots) ∧ w'.cell? ⟨b, off + (k + 2) * 4 + 3, none⟩ = some (.slice ca' m cc')) (first | with_reducible exact hs2 | go_keep) (first
          | (go_at_call 23; refine hsf.mono ?_; rintro _ w2 ⟨rfl, hk2⟩; have hs2 := And.intro (hk2.cell d0 (fun f => f)) (And.intro (hk2.cell e0 (fun f => f)) (And.intro (hk2.cell y0 (fun f => f)) (And.intro (hk2.cell y1 (fun f => f)) (And.intro (hk2.cell y2 (fun f => f)) (And.intro (hk2.cell y3 (fun f => f)) (And.intro (hk2.cell u0 (fun f => f)) (And.intro (hk2.cell u1 (fun f => f)) (And.intro (hk2.cell u2 (fun f => f)) (hk2.cell u3 (fun f => f)))))))))))
        )
        all_goals (go_wp2_with fail; go_meet)
        all_goals exact ⟨rfl, (Keeps.drew None wr).trans hk2 (fun _ f _ => f)⟩
      case rest =>
        obtain ⟨rfl, hk2⟩ := hcut
        have HK2 : Hid (Keeps None wr wc) := hk2
        clear hk2
        go_wp2_with fail
        exact ⟨⟨k + 1, by omega, by simp, HK.out.trans HK2.out (fun _ f _ => f)⟩, by simp [intOf]; omega⟩
    · have i1 : ¬ ((k : Int) < (n : Int)) := by omega
      have HK : Hid (Keeps None wa wr) := hkp
      clear hkp
      go_wp2_with fail
      go_ret
      exact ⟨rfl, HC.out.2.2.1.trans HK.out (fun _ f _ => f)⟩
end Go.Proofs.YtiibflbfnoddmaaDoor
