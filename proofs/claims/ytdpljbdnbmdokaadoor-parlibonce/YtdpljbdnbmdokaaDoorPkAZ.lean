import Derived.Test.YtdpljbdnbmdokaaDoorPkAY
/-! ParlibOnce: the statement's walk. -/
namespace Go.Proofs.YtdpljbdnbmdokaaDoor
set_option linter.unusedVariables false
set_option maxRecDepth 20000
open Go.RowKit Go.HeapKit Go.PlainOps

theorem at_forE (op k : Int) (h0 : 0 ≤ op) (h1 : op < 16) : forE [atF op k] 0 = 0 := by
  have hc : op = 0 ∨ op = 1 ∨ op = 2 ∨ op = 3 ∨ op = 4 ∨ op = 5 ∨ op = 6 ∨ op = 7 ∨ op = 8 ∨ op = 9 ∨ op = 10 ∨ op = 11 ∨ op = 12 ∨ op = 13 ∨ op = 14 ∨ op = 15 := by omega
  rcases hc with rfl | rfl | rfl | rfl | rfl | rfl | rfl | rfl | rfl | rfl | rfl | rfl | rfl | rfl | rfl | rfl <;> rfl
/-- How many of the first i are of function 2. -/
def seen2 (L : List Nd) (i : Nat) : Nat := (((L.take i).map key).filter (fun x => x.1 == 2)).length
theorem filt_at {α : Type} (p : α → Bool) : ∀ (l : List α) (i : Nat) (x : α), l[i]? = some x → p x = true → (l.filter p)[((l.take i).filter p).length]? = some x
  | [], i, x, h, _ => by simp at h
  | y :: l, 0, x, h, hp => by
    simp at h
    subst h
    simp [hp]
  | y :: l, i + 1, x, h, hp => by
    have ih := filt_at p l i x (by simpa using h) hp
    by_cases hy : p y = true
    · simp [hy, ih]
    · simp [hy, ih]
theorem seen2_next {L : List Nd} {i : Nat} {x : Nd} (h : L[i]? = some x) : seen2 L (i + 1) = seen2 L i + (if x.func = 2 then 1 else 0) := by
  unfold seen2
  rw [List.take_add_one, h]
  simp only [Option.toList_some, List.map_append, List.filter_append, List.length_append, List.map_cons, List.map_nil]
  by_cases h2 : x.func = 2
  · rw [if_pos h2]; simp [key, h2]
  · rw [if_neg h2]; simp [key, h2]
theorem seen2_arg {L : List Nd} {n i : Nat} {x : Nd} (hf : (L.map key).filter (fun x => x.1 == 2) = oneK 2 0 n) (h : L[i]? = some x) (h2 : x.func = 2) : x.arg = (seen2 L i : Int) := by
  have h3 := filt_at (fun x : Int × Int => x.1 == 2) (L.map key) i (key x) (by rw [List.getElem?_map, h]; rfl) (by simp [key, h2])
  rw [hf, ← List.map_take] at h3
  have h4 : (oneK 2 0 n)[seen2 L i]? = some (key x) := h3
  unfold oneK at h4
  rw [List.getElem?_map] at h4
  obtain ⟨j, hj, e⟩ := Option.map_eq_some_iff.1 h4
  have hj2 := (List.getElem?_eq_some_iff.1 hj).2
  simp at hj2
  unfold key at e
  injection e with e1 e2
  omega
theorem seen2_all {L : List Nd} {n : Nat} (hf : (L.map key).filter (fun x => x.1 == 2) = oneK 2 0 n) : seen2 L L.length = n := by
  unfold seen2
  rw [List.take_length, hf]
  simp [oneK]
theorem seen2_le {L : List Nd} {n : Nat} (hf : (L.map key).filter (fun x => x.1 == 2) = oneK 2 0 n) (i : Nat) : seen2 L i ≤ n := by
  rw [← seen2_all hf]
  unfold seen2
  rw [List.take_length]
  exact ((List.Sublist.map key (List.take_sublist i L)).filter _).length_le
/-- The nodes in memory. -/
structure SeenN2 (w : World) (a : Option Addr) (n : Nat) (L : List Nd) : Prop where
  len : n = L.length
  ex : 0 < n → ∃ b, a = some ⟨b, 0, none⟩ ∧ ∀ k x, L[k]? = some x → w.cell? ⟨b, k * 7 + 2, none⟩ = some (.int .i64 x.func) ∧ w.cell? ⟨b, k * 7 + 5, none⟩ = some (.int .i64 x.arg)
theorem SeenN2.more {w w' : World} {a : Option Addr} {n : Nat} {L : List Nd} (h : SeenN2 w a n L) (hk : Keeps None w w') : SeenN2 w' a n L := by
  refine ⟨h.len, fun h0 => ?_⟩
  obtain ⟨b, rfl, hc⟩ := h.ex h0
  exact ⟨b, rfl, fun k x hx => ⟨hk.cell (hc k x hx).1 (fun f => f), hk.cell (hc k x hx).2 (fun f => f)⟩⟩
theorem seenN2_of {w : World} {nv : Value} {L : List Nd} (h : w.ownsRow 0 44 7 nv L.length (ndVals L)) : ∃ a c, nv = .slice a L.length c ∧ L.length ≤ maxLen ∧ SeenN2 w a L.length L := by
  rcases h.2 with ⟨rfl, h0⟩ | ⟨g, cap, cur, rfl, _, hb, hn, hmx, hcs, htk⟩
  · exact ⟨none, 0, by rw [h0], by omega, ⟨rfl, fun hp => by omega⟩⟩
  · refine ⟨_, cap, rfl, by omega, ⟨rfl, fun _ => ⟨g, rfl, fun k x hx => ?_⟩⟩⟩
    have hc : ∀ j y, x.l[j]? = some y → w.cell? ⟨g, k * 7 + j, none⟩ = some (.int .i64 y) := fun j y hy => by
      have h1 := ndVals_at L k x hx j y hy
      rw [blk_cell hb, ← Array.getElem?_toList]
      rw [← htk, List.getElem?_take] at h1
      split at h1
      · exact h1
      · cases h1
    exact ⟨hc 2 _ rfl, hc 5 _ rfl⟩
set_option maxHeartbeats 4000000 in
theorem once_walk (how k grain n : Int) (w : World) (hT : Tabs w) (hh : okI how) (hk0 : okI k) (hg : okI grain) (hn : okI n) :
    Calls Tryd.prog 4 #[.int .i64 how, .int .i64 k, .int .i64 grain, .int .i64 n] w fun e w' => e = .returned (.bool true) ∧ Keeps None w w' := by
  obtain ⟨NN, hN⟩ : ∃ NN, NN = modP n 101 := ⟨_, rfl⟩
  obtain ⟨R, hR⟩ : ∃ R, R = modP how 16 := ⟨_, rfl⟩
  have hN8 : NN < 101 := by rw [hN]; exact modP_lt _ (by omega)
  have hR3 : R < 16 := by rw [hR]; exact modP_lt _ (by omega)
  have m1 := mod13_any n 101 w hn (by omega) (by omega)
  rw [← hN] at m1
  have m2 : ∀ w', Keeps None w w' → Calls Tryd.prog 5 #[.int .i64 how, .int .i64 16] w' fun e w'' => e = .returned (.int .i64 R) ∧ Keeps None w' w'' := fun w' _ => by
    have := mod13_any how 16 w' hh (by omega) (by omega)
    rw [← hR] at this
    exact this
  have M2 : Hid _ := m2
  have HT : Hid (Tabs w) := hT
  have HG : Hid (okI k ∧ okI grain) := ⟨hk0, hg⟩
  have i1 : (NN : Int) < 101 := by omega
  have i2 : (R : Int) < 16 := by omega
  clear hN hR m2 hh hn hT hk0 hg
  go_enter Tryd.func4, Tryd.ntmps4
  go_wp2_with fail
  refine m1.mono ?_
  rintro _ w1 ⟨rfl, k1⟩
  clear m1
  have bP := heap_alloc_new w1 (.cells #[.slice none 0 0] 25)
  have kP := Keeps.alloc None w1 (.cells #[.slice none 0 0] 25)
  obtain ⟨W, hW⟩ : ∃ W, W = w1.alloc (.cells #[.slice none 0 0] 25) := ⟨_, rfl⟩
  obtain ⟨P, hP⟩ : ∃ P, P = w1.heap.size := ⟨_, rfl⟩
  rw [← hW] at bP kP
  rw [← hP] at bP
  have HW : Hid (Keeps None w W ∧ W.heap[P]? = some (.cells #[.slice none 0 0] 25 (0, 0)) ∧ w.heap.size ≤ P) := ⟨k1.trans kP (fun _ f _ => f), bP, by have := k1.size; omega⟩
  clear bP kP k1
  go_upto_region 3 with fail
  rw [← hW, ← hP]
  clear hW hP
  have r00 : W.cell? ⟨P, 0, none⟩ = some (.slice none 0 0) := (blk_cell HW.out.2.1 0).trans rfl
  have r0 : W.drew.cell? ⟨P, 0, none⟩ = some (.slice none 0 0) := (Keeps.drew None W).cell r00 (fun f => f)
  go_cut [] (fun wc => ∃ a c, wc.heap[P]? = some (.cells #[.slice a 1 c] 25 (0, 0)) ∧ SeenF wc a 1 [atF (R : Int) k] ∧ Keeps None w wc)
  case first =>
    refine wp_region_held_drew (S := (fun w' => True)) (by kernel_rfl) ?_ (fun hHeld => ?_)
    · (try dsimp only); all_goals trivial
    refine wpAnyH_take (i := 0) (oi := { dst := some 21, op := Op.fieldAddr 25 (Operand.tmp 9) 0, type := 0, pos := "outright.go:99", after := #[], guard := none }) (v := ?_) rfl (by kernel_rfl) (by kernel_rfl) (by kernel_rfl) (fun _ _ _ h => h) (Or.inl ⟨by rfl, ?_⟩) (by assumption) ?_
    rotate_left
    · (intro wz hSw; (try dsimp only at hSw); go_simp; try with_reducible rfl)
    simp only [Act.put, List.setIfInBounds_toArray, List.set_cons_zero, List.set_cons_succ]
    refine wpAnyH_take (i := 2) (oi := { dst := some 23, op := Op.move (Operand.tmp 0), type := 3, pos := "outright.go:99", after := #[], guard := none }) (v := ?_) rfl (by kernel_rfl) (by kernel_rfl) (by kernel_rfl) (fun _ _ _ h => h) (Or.inl ⟨by rfl, ?_⟩) (by assumption) ?_
    rotate_left
    · (intro wz hSw; (try dsimp only at hSw); go_simp; try with_reducible rfl)
    simp only [Act.put, List.setIfInBounds_toArray, List.set_cons_zero, List.set_cons_succ]
    refine wpAnyH_take (i := 4) (oi := { dst := some 25, op := Op.move (Operand.tmp 1), type := 2, pos := "outright.go:99", after := #[], guard := none }) (v := ?_) rfl (by kernel_rfl) (by kernel_rfl) (by kernel_rfl) (fun _ _ _ h => h) (Or.inl ⟨by rfl, ?_⟩) (by assumption) ?_
    rotate_left
    · (intro wz hSw; (try dsimp only at hSw); go_simp; try with_reducible rfl)
    simp only [Act.put, List.setIfInBounds_toArray, List.set_cons_zero, List.set_cons_succ]
    refine wpAnyH_ready (rs := [1, 3]) (by kernel_rfl) (by simp) ?_
    refine AllReadyH.cons (o := { dst := some 22, op := Op.load 23 (Operand.tmp 21), type := 23, pos := "outright.go:99", after := #[{ on := 0, ground := Ground.data }], guard := none }) rfl (fun K hK => ?_) ?_
    · go_simp
      refine hK.out _ _ ?_ (fun hHeld2 => ?_)
      · (try dsimp only); all_goals trivial
      clear hK K
      try simp only [Act.put, List.setIfInBounds_toArray, List.set_cons_zero, List.set_cons_succ]
      refine wpAnyH_ready (rs := [3]) (by kernel_rfl) (by simp) ?_
      refine AllReadyH.cons (o := { dst := some 24, op := Op.call { callee := Callee.value (Operand.func 5), args := #[Operand.tmp 23, Operand.const (Value.int IntKind.i64 16)], argTypes := #[3, 3] }, type := 3, pos := "outright.go:99", after := #[{ on := 2, ground := Ground.data }], guard := none }) rfl (fun K hK => ?_) ?_
      · go_simp
        refine (M2.out _ (HW.out.1.andDrew)).mono ?_
        rintro _ w3 ⟨rfl, k3⟩
        have j3 : Keeps None W w3 := (Keeps.drew None W).trans k3 (fun _ f _ => f)
        have r3 := j3.cell r00 (fun f => f)
        refine hK.out _ _ ?_ (fun hHeld2 => ?_)
        · (try dsimp only); all_goals trivial
        clear hK K
        try simp only [Act.put, List.setIfInBounds_toArray, List.set_cons_zero, List.set_cons_succ]
        refine wpAnyH_ready (rs := [5]) (by kernel_rfl) (by simp) ?_
        refine AllReadyH.cons (o := { dst := some 26, op := Op.call { callee := Callee.value (Operand.func 9), args := #[Operand.tmp 24, Operand.tmp 25], argTypes := #[3, 2] }, type := 28, pos := "outright.go:99", after := #[{ on := 3, ground := Ground.data }, { on := 4, ground := Ground.data }, { on := 3, ground := Ground.chain }], guard := none }) rfl (fun K hK => ?_) ?_
        · go_simp
          refine (at_any _ _ _).mono ?_
          rintro _ w5 ⟨v5, rfl, o5, k5⟩
          obtain ⟨ca5, cc5, rfl, -⟩ := o5.shape
          have j5 : Keeps None W w5 := j3.trans k5 (fun _ f _ => f)
          have r5 := j5.cell r00 (fun f => f)
          have j6 := j5.andAlloc (.cells #[.int .i64 1, .int .i64 2, .int .i64 0, .slice ca5 (atF (R : Int) k).code.length cc5] 28)
          have r6 := j6.cell r00 (fun f => f)
          have b6 := heap_alloc_new w5 (.cells #[.int .i64 1, .int .i64 2, .int .i64 0, .slice ca5 (atF (R : Int) k).code.length cc5] 28)
          obtain ⟨a7, c7, w7, hr7, o7, k7⟩ := fn_first (atF (R : Int) k) _ w5.heap.size w.heap.size _ ((o5.low (by have := j3.size; have := HW.out.1.size; omega)).more (Keeps.alloc None _ _)) b6 (by have := j6.size; have := HW.out.1.size; omega)
          have b7 := blk_kept (blk_kept HW.out.2.1 j6 (fun f => f)) k7 (fun f => f)
          have z7 : w7.cell? ⟨P, 0, none⟩ = some (.slice none 0 0) := (blk_cell b7 0).trans rfl
          have f7 := blk_free b7 0
          have k9 := Keeps.setCell (S := (· = P)) w7 (a := ⟨P, 0, none⟩) rfl (.slice a7 1 c7)
          have b9 := blk_set (i := 0) b7 (.slice a7 1 c7)
          have hs9 : OwnF (w7.setCell ⟨P, 0, none⟩ (.slice a7 1 c7)) w.heap.size (.slice a7 1 c7) [(atF (R : Int) k, .slice ca5 (atF (R : Int) k).code.length cc5)] := ⟨k9.own o7.row (fun q e hq => by subst hq; exact absurd (own_type o7.row e b7) (by decide)), fun x hx => (o7.codes x hx).kept k9 (fun q e hq => by subst hq; exact absurd (own_type (o7.codes x hx) e b7) (by decide))⟩
          have HZ : Hid (∃ a c, (w7.setCell ⟨P, 0, none⟩ (.slice a7 1 c7)).heap[P]? = some (.cells #[.slice a 1 c] 25 (0, 0)) ∧ SeenF (w7.setCell ⟨P, 0, none⟩ (.slice a7 1 c7)) a 1 [atF (R : Int) k] ∧ Keeps None w (w7.setCell ⟨P, 0, none⟩ (.slice a7 1 c7))) := by
            obtain ⟨a', c', e', hs'⟩ := hs9.seen
            injection e' with e1 e2 e3
            subst e1
            exact ⟨_, _, b9, hs', ((HW.out.1.trans j6 (fun _ f _ => f)).trans k7 (fun _ f _ => f)).trans k9 (fun i e hi => by have e' : i = P := e; have := HW.out.2.2; omega)⟩
          have HR7 : Hid _ := hr7
          clear hs9 b9 k9 b7 o7 k7 b6 o5 hr7
          refine hK.out _ _ ?_ (fun hHeld2 => ?_)
          · (try dsimp only); all_goals trivial
          clear hK K
          try simp only [Act.put, List.setIfInBounds_toArray, List.set_cons_zero, List.set_cons_succ]
          refine wpAnyH_ready (rs := [6]) (by kernel_rfl) (by simp) ?_
          refine AllReadyH.cons (o := { dst := some 27, op := Op.buildSlice 23 1 #[(0, Operand.tmp 26)], type := 23, pos := "outright.go:99", after := #[{ on := 5, ground := Ground.data }], guard := none }) rfl (fun K hK => ?_) ?_
          · go_simp
            refine hK.out _ _ ?_ (fun hHeld2 => ?_)
            · (try dsimp only); all_goals trivial
            clear hK K
            try simp only [Act.put, List.setIfInBounds_toArray, List.set_cons_zero, List.set_cons_succ]
            refine wpAnyH_ready (rs := [7]) (by kernel_rfl) (by simp) ?_
            refine AllReadyH.cons (o := { dst := some 28, op := Op.call { callee := Callee.builtin Builtin.append, args := #[Operand.tmp 22, Operand.tmp 27], argTypes := #[23, 23] }, type := 23, pos := "outright.go:99", after := #[{ on := 1, ground := Ground.data }, { on := 6, ground := Ground.data }, { on := 5, ground := Ground.chain }], guard := none }) rfl (fun K hK => ?_) ?_
            · refine step_append_run rfl (.tmp 22) (.tmp 27) 23 23 rfl rfl rfl HR7.out ?_
              refine hK.out _ _ ?_ (fun hHeld2 => ?_)
              · (try dsimp only); all_goals trivial
              clear hK K
              try simp only [Act.put, List.setIfInBounds_toArray, List.set_cons_zero, List.set_cons_succ]
              refine wpAnyH_take (i := 8) (oi := { dst := some 29, op := Op.fieldAddr 25 (Operand.tmp 9) 0, type := 0, pos := "outright.go:99", after := #[{ on := 0, ground := Ground.phase }, { on := 1, ground := Ground.phase }, { on := 2, ground := Ground.phase }, { on := 3, ground := Ground.phase }, { on := 4, ground := Ground.phase }, { on := 5, ground := Ground.phase }, { on := 6, ground := Ground.phase }, { on := 7, ground := Ground.phase }], guard := none }) (v := ?_) rfl (by kernel_rfl) (by kernel_rfl) (by kernel_rfl) (fun _ _ _ h => h) (Or.inl ⟨by rfl, ?_⟩) (by assumption) ?_
              rotate_left
              · (intro wz hSw; (try dsimp only at hSw); go_simp; try with_reducible rfl)
              simp only [Act.put, List.setIfInBounds_toArray, List.set_cons_zero, List.set_cons_succ]
              refine wpAnyH_ready (rs := [9]) (by kernel_rfl) (by simp) ?_
              refine AllReadyH.cons (o := { dst := none, op := Op.store 23 (Operand.tmp 29) (Operand.tmp 28), type := 0, pos := "outright.go:99", after := #[{ on := 8, ground := Ground.data }, { on := 7, ground := Ground.data }, { on := 7, ground := Ground.chain }, { on := 0, ground := Ground.phase }, { on := 1, ground := Ground.phase }, { on := 2, ground := Ground.phase }, { on := 3, ground := Ground.phase }, { on := 4, ground := Ground.phase }, { on := 5, ground := Ground.phase }, { on := 6, ground := Ground.phase }, { on := 7, ground := Ground.phase }], guard := none }) rfl (fun K hK => ?_) ?_
              · go_simp
                refine hK.out _ _ ?_ (fun hHeld2 => ?_)
                · (try dsimp only); all_goals trivial
                clear hK K
                try simp only [Act.put, List.setIfInBounds_toArray, List.set_cons_zero, List.set_cons_succ]
                refine wpAnyH_done (by kernel_rfl) ?_ _
                go_wp2_with fail
                go_meet
                exact HZ.out
              exact AllReadyH.nil
            exact AllReadyH.nil
          exact AllReadyH.nil
        exact AllReadyH.nil
      exact AllReadyH.nil
    refine AllReadyH.cons (o := { dst := some 24, op := Op.call { callee := Callee.value (Operand.func 5), args := #[Operand.tmp 23, Operand.const (Value.int IntKind.i64 16)], argTypes := #[3, 3] }, type := 3, pos := "outright.go:99", after := #[{ on := 2, ground := Ground.data }], guard := none }) rfl (fun K hK => ?_) ?_
    · go_simp
      refine (M2.out _ (HW.out.1.andDrew)).mono ?_
      rintro _ w3 ⟨rfl, k3⟩
      have j3 : Keeps None W w3 := (Keeps.drew None W).trans k3 (fun _ f _ => f)
      have r3 := j3.cell r00 (fun f => f)
      refine hK.out _ _ ?_ (fun hHeld2 => ?_)
      · (try dsimp only); all_goals trivial
      clear hK K
      try simp only [Act.put, List.setIfInBounds_toArray, List.set_cons_zero, List.set_cons_succ]
      refine wpAnyH_ready (rs := [1, 5]) (by kernel_rfl) (by simp) ?_
      refine AllReadyH.cons (o := { dst := some 22, op := Op.load 23 (Operand.tmp 21), type := 23, pos := "outright.go:99", after := #[{ on := 0, ground := Ground.data }], guard := none }) rfl (fun K hK => ?_) ?_
      · go_simp
        refine hK.out _ _ ?_ (fun hHeld2 => ?_)
        · (try dsimp only); all_goals trivial
        clear hK K
        try simp only [Act.put, List.setIfInBounds_toArray, List.set_cons_zero, List.set_cons_succ]
        refine wpAnyH_ready (rs := [5]) (by kernel_rfl) (by simp) ?_
        refine AllReadyH.cons (o := { dst := some 26, op := Op.call { callee := Callee.value (Operand.func 9), args := #[Operand.tmp 24, Operand.tmp 25], argTypes := #[3, 2] }, type := 28, pos := "outright.go:99", after := #[{ on := 3, ground := Ground.data }, { on := 4, ground := Ground.data }, { on := 3, ground := Ground.chain }], guard := none }) rfl (fun K hK => ?_) ?_
        · go_simp
          refine (at_any _ _ _).mono ?_
          rintro _ w5 ⟨v5, rfl, o5, k5⟩
          obtain ⟨ca5, cc5, rfl, -⟩ := o5.shape
          have j5 : Keeps None W w5 := j3.trans k5 (fun _ f _ => f)
          have r5 := j5.cell r00 (fun f => f)
          have j6 := j5.andAlloc (.cells #[.int .i64 1, .int .i64 2, .int .i64 0, .slice ca5 (atF (R : Int) k).code.length cc5] 28)
          have r6 := j6.cell r00 (fun f => f)
          have b6 := heap_alloc_new w5 (.cells #[.int .i64 1, .int .i64 2, .int .i64 0, .slice ca5 (atF (R : Int) k).code.length cc5] 28)
          obtain ⟨a7, c7, w7, hr7, o7, k7⟩ := fn_first (atF (R : Int) k) _ w5.heap.size w.heap.size _ ((o5.low (by have := j3.size; have := HW.out.1.size; omega)).more (Keeps.alloc None _ _)) b6 (by have := j6.size; have := HW.out.1.size; omega)
          have b7 := blk_kept (blk_kept HW.out.2.1 j6 (fun f => f)) k7 (fun f => f)
          have z7 : w7.cell? ⟨P, 0, none⟩ = some (.slice none 0 0) := (blk_cell b7 0).trans rfl
          have f7 := blk_free b7 0
          have k9 := Keeps.setCell (S := (· = P)) w7 (a := ⟨P, 0, none⟩) rfl (.slice a7 1 c7)
          have b9 := blk_set (i := 0) b7 (.slice a7 1 c7)
          have hs9 : OwnF (w7.setCell ⟨P, 0, none⟩ (.slice a7 1 c7)) w.heap.size (.slice a7 1 c7) [(atF (R : Int) k, .slice ca5 (atF (R : Int) k).code.length cc5)] := ⟨k9.own o7.row (fun q e hq => by subst hq; exact absurd (own_type o7.row e b7) (by decide)), fun x hx => (o7.codes x hx).kept k9 (fun q e hq => by subst hq; exact absurd (own_type (o7.codes x hx) e b7) (by decide))⟩
          have HZ : Hid (∃ a c, (w7.setCell ⟨P, 0, none⟩ (.slice a7 1 c7)).heap[P]? = some (.cells #[.slice a 1 c] 25 (0, 0)) ∧ SeenF (w7.setCell ⟨P, 0, none⟩ (.slice a7 1 c7)) a 1 [atF (R : Int) k] ∧ Keeps None w (w7.setCell ⟨P, 0, none⟩ (.slice a7 1 c7))) := by
            obtain ⟨a', c', e', hs'⟩ := hs9.seen
            injection e' with e1 e2 e3
            subst e1
            exact ⟨_, _, b9, hs', ((HW.out.1.trans j6 (fun _ f _ => f)).trans k7 (fun _ f _ => f)).trans k9 (fun i e hi => by have e' : i = P := e; have := HW.out.2.2; omega)⟩
          have HR7 : Hid _ := hr7
          clear hs9 b9 k9 b7 o7 k7 b6 o5 hr7
          refine hK.out _ _ ?_ (fun hHeld2 => ?_)
          · (try dsimp only); all_goals trivial
          clear hK K
          try simp only [Act.put, List.setIfInBounds_toArray, List.set_cons_zero, List.set_cons_succ]
          refine wpAnyH_ready (rs := [6]) (by kernel_rfl) (by simp) ?_
          refine AllReadyH.cons (o := { dst := some 27, op := Op.buildSlice 23 1 #[(0, Operand.tmp 26)], type := 23, pos := "outright.go:99", after := #[{ on := 5, ground := Ground.data }], guard := none }) rfl (fun K hK => ?_) ?_
          · go_simp
            refine hK.out _ _ ?_ (fun hHeld2 => ?_)
            · (try dsimp only); all_goals trivial
            clear hK K
            try simp only [Act.put, List.setIfInBounds_toArray, List.set_cons_zero, List.set_cons_succ]
            refine wpAnyH_ready (rs := [7]) (by kernel_rfl) (by simp) ?_
            refine AllReadyH.cons (o := { dst := some 28, op := Op.call { callee := Callee.builtin Builtin.append, args := #[Operand.tmp 22, Operand.tmp 27], argTypes := #[23, 23] }, type := 23, pos := "outright.go:99", after := #[{ on := 1, ground := Ground.data }, { on := 6, ground := Ground.data }, { on := 5, ground := Ground.chain }], guard := none }) rfl (fun K hK => ?_) ?_
            · refine step_append_run rfl (.tmp 22) (.tmp 27) 23 23 rfl rfl rfl HR7.out ?_
              refine hK.out _ _ ?_ (fun hHeld2 => ?_)
              · (try dsimp only); all_goals trivial
              clear hK K
              try simp only [Act.put, List.setIfInBounds_toArray, List.set_cons_zero, List.set_cons_succ]
              refine wpAnyH_take (i := 8) (oi := { dst := some 29, op := Op.fieldAddr 25 (Operand.tmp 9) 0, type := 0, pos := "outright.go:99", after := #[{ on := 0, ground := Ground.phase }, { on := 1, ground := Ground.phase }, { on := 2, ground := Ground.phase }, { on := 3, ground := Ground.phase }, { on := 4, ground := Ground.phase }, { on := 5, ground := Ground.phase }, { on := 6, ground := Ground.phase }, { on := 7, ground := Ground.phase }], guard := none }) (v := ?_) rfl (by kernel_rfl) (by kernel_rfl) (by kernel_rfl) (fun _ _ _ h => h) (Or.inl ⟨by rfl, ?_⟩) (by assumption) ?_
              rotate_left
              · (intro wz hSw; (try dsimp only at hSw); go_simp; try with_reducible rfl)
              simp only [Act.put, List.setIfInBounds_toArray, List.set_cons_zero, List.set_cons_succ]
              refine wpAnyH_ready (rs := [9]) (by kernel_rfl) (by simp) ?_
              refine AllReadyH.cons (o := { dst := none, op := Op.store 23 (Operand.tmp 29) (Operand.tmp 28), type := 0, pos := "outright.go:99", after := #[{ on := 8, ground := Ground.data }, { on := 7, ground := Ground.data }, { on := 7, ground := Ground.chain }, { on := 0, ground := Ground.phase }, { on := 1, ground := Ground.phase }, { on := 2, ground := Ground.phase }, { on := 3, ground := Ground.phase }, { on := 4, ground := Ground.phase }, { on := 5, ground := Ground.phase }, { on := 6, ground := Ground.phase }, { on := 7, ground := Ground.phase }], guard := none }) rfl (fun K hK => ?_) ?_
              · go_simp
                refine hK.out _ _ ?_ (fun hHeld2 => ?_)
                · (try dsimp only); all_goals trivial
                clear hK K
                try simp only [Act.put, List.setIfInBounds_toArray, List.set_cons_zero, List.set_cons_succ]
                refine wpAnyH_done (by kernel_rfl) ?_ _
                go_wp2_with fail
                go_meet
                exact HZ.out
              exact AllReadyH.nil
            exact AllReadyH.nil
          exact AllReadyH.nil
        exact AllReadyH.nil
      refine AllReadyH.cons (o := { dst := some 26, op := Op.call { callee := Callee.value (Operand.func 9), args := #[Operand.tmp 24, Operand.tmp 25], argTypes := #[3, 2] }, type := 28, pos := "outright.go:99", after := #[{ on := 3, ground := Ground.data }, { on := 4, ground := Ground.data }, { on := 3, ground := Ground.chain }], guard := none }) rfl (fun K hK => ?_) ?_
      · go_simp
        refine (at_any _ _ _).mono ?_
        rintro _ w5 ⟨v5, rfl, o5, k5⟩
        obtain ⟨ca5, cc5, rfl, -⟩ := o5.shape
        have j5 : Keeps None W w5 := j3.trans k5 (fun _ f _ => f)
        have r5 := j5.cell r00 (fun f => f)
        have j6 := j5.andAlloc (.cells #[.int .i64 1, .int .i64 2, .int .i64 0, .slice ca5 (atF (R : Int) k).code.length cc5] 28)
        have r6 := j6.cell r00 (fun f => f)
        have b6 := heap_alloc_new w5 (.cells #[.int .i64 1, .int .i64 2, .int .i64 0, .slice ca5 (atF (R : Int) k).code.length cc5] 28)
        obtain ⟨a7, c7, w7, hr7, o7, k7⟩ := fn_first (atF (R : Int) k) _ w5.heap.size w.heap.size _ ((o5.low (by have := j3.size; have := HW.out.1.size; omega)).more (Keeps.alloc None _ _)) b6 (by have := j6.size; have := HW.out.1.size; omega)
        have b7 := blk_kept (blk_kept HW.out.2.1 j6 (fun f => f)) k7 (fun f => f)
        have z7 : w7.cell? ⟨P, 0, none⟩ = some (.slice none 0 0) := (blk_cell b7 0).trans rfl
        have f7 := blk_free b7 0
        have k9 := Keeps.setCell (S := (· = P)) w7 (a := ⟨P, 0, none⟩) rfl (.slice a7 1 c7)
        have b9 := blk_set (i := 0) b7 (.slice a7 1 c7)
        have hs9 : OwnF (w7.setCell ⟨P, 0, none⟩ (.slice a7 1 c7)) w.heap.size (.slice a7 1 c7) [(atF (R : Int) k, .slice ca5 (atF (R : Int) k).code.length cc5)] := ⟨k9.own o7.row (fun q e hq => by subst hq; exact absurd (own_type o7.row e b7) (by decide)), fun x hx => (o7.codes x hx).kept k9 (fun q e hq => by subst hq; exact absurd (own_type (o7.codes x hx) e b7) (by decide))⟩
        have HZ : Hid (∃ a c, (w7.setCell ⟨P, 0, none⟩ (.slice a7 1 c7)).heap[P]? = some (.cells #[.slice a 1 c] 25 (0, 0)) ∧ SeenF (w7.setCell ⟨P, 0, none⟩ (.slice a7 1 c7)) a 1 [atF (R : Int) k] ∧ Keeps None w (w7.setCell ⟨P, 0, none⟩ (.slice a7 1 c7))) := by
          obtain ⟨a', c', e', hs'⟩ := hs9.seen
          injection e' with e1 e2 e3
          subst e1
          exact ⟨_, _, b9, hs', ((HW.out.1.trans j6 (fun _ f _ => f)).trans k7 (fun _ f _ => f)).trans k9 (fun i e hi => by have e' : i = P := e; have := HW.out.2.2; omega)⟩
        have HR7 : Hid _ := hr7
        clear hs9 b9 k9 b7 o7 k7 b6 o5 hr7
        refine hK.out _ _ ?_ (fun hHeld2 => ?_)
        · (try dsimp only); all_goals trivial
        clear hK K
        try simp only [Act.put, List.setIfInBounds_toArray, List.set_cons_zero, List.set_cons_succ]
        refine wpAnyH_ready (rs := [1, 6]) (by kernel_rfl) (by simp) ?_
        refine AllReadyH.cons (o := { dst := some 22, op := Op.load 23 (Operand.tmp 21), type := 23, pos := "outright.go:99", after := #[{ on := 0, ground := Ground.data }], guard := none }) rfl (fun K hK => ?_) ?_
        · go_simp
          refine hK.out _ _ ?_ (fun hHeld2 => ?_)
          · (try dsimp only); all_goals trivial
          clear hK K
          try simp only [Act.put, List.setIfInBounds_toArray, List.set_cons_zero, List.set_cons_succ]
          refine wpAnyH_ready (rs := [6]) (by kernel_rfl) (by simp) ?_
          refine AllReadyH.cons (o := { dst := some 27, op := Op.buildSlice 23 1 #[(0, Operand.tmp 26)], type := 23, pos := "outright.go:99", after := #[{ on := 5, ground := Ground.data }], guard := none }) rfl (fun K hK => ?_) ?_
          · go_simp
            refine hK.out _ _ ?_ (fun hHeld2 => ?_)
            · (try dsimp only); all_goals trivial
            clear hK K
            try simp only [Act.put, List.setIfInBounds_toArray, List.set_cons_zero, List.set_cons_succ]
            refine wpAnyH_ready (rs := [7]) (by kernel_rfl) (by simp) ?_
            refine AllReadyH.cons (o := { dst := some 28, op := Op.call { callee := Callee.builtin Builtin.append, args := #[Operand.tmp 22, Operand.tmp 27], argTypes := #[23, 23] }, type := 23, pos := "outright.go:99", after := #[{ on := 1, ground := Ground.data }, { on := 6, ground := Ground.data }, { on := 5, ground := Ground.chain }], guard := none }) rfl (fun K hK => ?_) ?_
            · refine step_append_run rfl (.tmp 22) (.tmp 27) 23 23 rfl rfl rfl HR7.out ?_
              refine hK.out _ _ ?_ (fun hHeld2 => ?_)
              · (try dsimp only); all_goals trivial
              clear hK K
              try simp only [Act.put, List.setIfInBounds_toArray, List.set_cons_zero, List.set_cons_succ]
              refine wpAnyH_take (i := 8) (oi := { dst := some 29, op := Op.fieldAddr 25 (Operand.tmp 9) 0, type := 0, pos := "outright.go:99", after := #[{ on := 0, ground := Ground.phase }, { on := 1, ground := Ground.phase }, { on := 2, ground := Ground.phase }, { on := 3, ground := Ground.phase }, { on := 4, ground := Ground.phase }, { on := 5, ground := Ground.phase }, { on := 6, ground := Ground.phase }, { on := 7, ground := Ground.phase }], guard := none }) (v := ?_) rfl (by kernel_rfl) (by kernel_rfl) (by kernel_rfl) (fun _ _ _ h => h) (Or.inl ⟨by rfl, ?_⟩) (by assumption) ?_
              rotate_left
              · (intro wz hSw; (try dsimp only at hSw); go_simp; try with_reducible rfl)
              simp only [Act.put, List.setIfInBounds_toArray, List.set_cons_zero, List.set_cons_succ]
              refine wpAnyH_ready (rs := [9]) (by kernel_rfl) (by simp) ?_
              refine AllReadyH.cons (o := { dst := none, op := Op.store 23 (Operand.tmp 29) (Operand.tmp 28), type := 0, pos := "outright.go:99", after := #[{ on := 8, ground := Ground.data }, { on := 7, ground := Ground.data }, { on := 7, ground := Ground.chain }, { on := 0, ground := Ground.phase }, { on := 1, ground := Ground.phase }, { on := 2, ground := Ground.phase }, { on := 3, ground := Ground.phase }, { on := 4, ground := Ground.phase }, { on := 5, ground := Ground.phase }, { on := 6, ground := Ground.phase }, { on := 7, ground := Ground.phase }], guard := none }) rfl (fun K hK => ?_) ?_
              · go_simp
                refine hK.out _ _ ?_ (fun hHeld2 => ?_)
                · (try dsimp only); all_goals trivial
                clear hK K
                try simp only [Act.put, List.setIfInBounds_toArray, List.set_cons_zero, List.set_cons_succ]
                refine wpAnyH_done (by kernel_rfl) ?_ _
                go_wp2_with fail
                go_meet
                exact HZ.out
              exact AllReadyH.nil
            exact AllReadyH.nil
          exact AllReadyH.nil
        refine AllReadyH.cons (o := { dst := some 27, op := Op.buildSlice 23 1 #[(0, Operand.tmp 26)], type := 23, pos := "outright.go:99", after := #[{ on := 5, ground := Ground.data }], guard := none }) rfl (fun K hK => ?_) ?_
        · go_simp
          refine hK.out _ _ ?_ (fun hHeld2 => ?_)
          · (try dsimp only); all_goals trivial
          clear hK K
          try simp only [Act.put, List.setIfInBounds_toArray, List.set_cons_zero, List.set_cons_succ]
          refine wpAnyH_ready (rs := [1]) (by kernel_rfl) (by simp) ?_
          refine AllReadyH.cons (o := { dst := some 22, op := Op.load 23 (Operand.tmp 21), type := 23, pos := "outright.go:99", after := #[{ on := 0, ground := Ground.data }], guard := none }) rfl (fun K hK => ?_) ?_
          · go_simp
            refine hK.out _ _ ?_ (fun hHeld2 => ?_)
            · (try dsimp only); all_goals trivial
            clear hK K
            try simp only [Act.put, List.setIfInBounds_toArray, List.set_cons_zero, List.set_cons_succ]
            refine wpAnyH_ready (rs := [7]) (by kernel_rfl) (by simp) ?_
            refine AllReadyH.cons (o := { dst := some 28, op := Op.call { callee := Callee.builtin Builtin.append, args := #[Operand.tmp 22, Operand.tmp 27], argTypes := #[23, 23] }, type := 23, pos := "outright.go:99", after := #[{ on := 1, ground := Ground.data }, { on := 6, ground := Ground.data }, { on := 5, ground := Ground.chain }], guard := none }) rfl (fun K hK => ?_) ?_
            · refine step_append_run rfl (.tmp 22) (.tmp 27) 23 23 rfl rfl rfl HR7.out ?_
              refine hK.out _ _ ?_ (fun hHeld2 => ?_)
              · (try dsimp only); all_goals trivial
              clear hK K
              try simp only [Act.put, List.setIfInBounds_toArray, List.set_cons_zero, List.set_cons_succ]
              refine wpAnyH_take (i := 8) (oi := { dst := some 29, op := Op.fieldAddr 25 (Operand.tmp 9) 0, type := 0, pos := "outright.go:99", after := #[{ on := 0, ground := Ground.phase }, { on := 1, ground := Ground.phase }, { on := 2, ground := Ground.phase }, { on := 3, ground := Ground.phase }, { on := 4, ground := Ground.phase }, { on := 5, ground := Ground.phase }, { on := 6, ground := Ground.phase }, { on := 7, ground := Ground.phase }], guard := none }) (v := ?_) rfl (by kernel_rfl) (by kernel_rfl) (by kernel_rfl) (fun _ _ _ h => h) (Or.inl ⟨by rfl, ?_⟩) (by assumption) ?_
              rotate_left
              · (intro wz hSw; (try dsimp only at hSw); go_simp; try with_reducible rfl)
              simp only [Act.put, List.setIfInBounds_toArray, List.set_cons_zero, List.set_cons_succ]
              refine wpAnyH_ready (rs := [9]) (by kernel_rfl) (by simp) ?_
              refine AllReadyH.cons (o := { dst := none, op := Op.store 23 (Operand.tmp 29) (Operand.tmp 28), type := 0, pos := "outright.go:99", after := #[{ on := 8, ground := Ground.data }, { on := 7, ground := Ground.data }, { on := 7, ground := Ground.chain }, { on := 0, ground := Ground.phase }, { on := 1, ground := Ground.phase }, { on := 2, ground := Ground.phase }, { on := 3, ground := Ground.phase }, { on := 4, ground := Ground.phase }, { on := 5, ground := Ground.phase }, { on := 6, ground := Ground.phase }, { on := 7, ground := Ground.phase }], guard := none }) rfl (fun K hK => ?_) ?_
              · go_simp
                refine hK.out _ _ ?_ (fun hHeld2 => ?_)
                · (try dsimp only); all_goals trivial
                clear hK K
                try simp only [Act.put, List.setIfInBounds_toArray, List.set_cons_zero, List.set_cons_succ]
                refine wpAnyH_done (by kernel_rfl) ?_ _
                go_wp2_with fail
                go_meet
                exact HZ.out
              exact AllReadyH.nil
            exact AllReadyH.nil
          exact AllReadyH.nil
        exact AllReadyH.nil
      exact AllReadyH.nil
    exact AllReadyH.nil
  case rest =>
    obtain ⟨a, c, bP, hs, hk⟩ := hcut
    clear r00 r0
    have hok : ∀ f ∈ [atF (R : Int) k], f.Ok := at_ok _ _ (by unfold okI; omega) HG.out.1
    have c0 : wc.cell? ⟨P, 0, none⟩ = some (.slice a 1 c) := (blk_cell bP 0).trans rfl
    have hfor := for_any a 1 c [atF (R : Int) k] 0 wc (HT.out.more hk) hs hok
    have hfe := at_forE (R : Int) k (by omega) (by omega)
    have HA : Hid (Keeps None w wc ∧ (∀ f ∈ [atF (R : Int) k], f.Ok)) := ⟨hk, hok⟩
    clear bP hs hk hok
    go_upto_region 5 with (go_at_call 8; refine hfor.mono ?_; intro e w3 hpost; obtain ⟨a3, n3, c3, he3, hs3, k3⟩ := made_of hfe hpost; rw [he3]; clear hpost he3)
    clear hfor c0 hfe
    have hn3 : n3 = 3 := hs3.len
    subst hn3
    have b3 := heap_alloc_new w3 (.cells #[.slice a3 3 c3] 25)
    have kQ := Keeps.alloc None w3 (.cells #[.slice a3 3 c3] 25)
    obtain ⟨U, hU⟩ : ∃ U, U = w3.alloc (.cells #[.slice a3 3 c3] 25) := ⟨_, rfl⟩
    obtain ⟨Q, hQ⟩ : ∃ Q, Q = w3.heap.size := ⟨_, rfl⟩
    rw [← hU] at b3 kQ
    rw [← hQ] at b3
    rw [← hU, ← hQ]
    have HU : Hid (Keeps None w U ∧ U.heap[Q]? = some (.cells #[.slice a3 3 c3] 25 (0, 0)) ∧ SeenF U a3 3 (forP [atF (R : Int) k] 0)) := ⟨(HA.out.1.trans k3 (fun _ f _ => f)).trans kQ (fun _ f _ => f), b3, hs3.more kQ⟩
    clear hU hQ b3 kQ k3 hs3
    -- the arguments
    have bA := heap_alloc_new U (.cells (ints [(NN : Int), grain]).toArray 2)
    have kA := Keeps.alloc None U (.cells (ints [(NN : Int), grain]).toArray 2)
    obtain ⟨V, hV⟩ : ∃ V, V = U.alloc (.cells (ints [(NN : Int), grain]).toArray 2) := ⟨_, rfl⟩
    obtain ⟨E, hE⟩ : ∃ E, E = U.heap.size := ⟨_, rfl⟩
    rw [← hV] at bA kA
    rw [← hE] at bA
    change V = U.alloc (.cells #[.int .i64 (NN : Int), .int .i64 grain] 2) at hV
    go_upto_region 6 with fail
    rw [← hV, ← hE]
    clear hV hE
    have hza := seen_args (l := [(NN : Int), grain]) bA (fun x hx => by simp at hx; rcases hx with rfl | rfl; unfold okI; omega; exact HG.out.2) (by simp)
    have hfok := forP_ok _ HA.out.2 (fun f hf i hi h5 => by
      simp at hf
      subst hf
      simp [atF] at hi
      rcases hi with rfl | rfl | rfl <;> simp at h5) 0 (by omega)
    obtain ⟨Wk, T, dd, sp, he, hfl⟩ := once_ok (R : Int) k grain NN (by omega) (by omega) (by omega)
    have kwV : Keeps None w V := HU.out.1.trans kA (fun _ f _ => f)
    have htr := tree_any a3 3 c3 (forP [atF (R : Int) k] 0) (some ⟨E, 0, none⟩) 2 2 [(NN : Int), grain] 100000 V (HT.out.more kwV) (HU.out.2.2.more kA) hfok hza (by omega) (by simp [okI])
    have bQ := blk_kept HU.out.2.1 kA (fun f => f)
    have c0 : V.cell? ⟨Q, 0, none⟩ = some (.slice a3 3 c3) := (blk_cell bQ 0).trans rfl
    have HV : Hid (Keeps None w V ∧ V.heap[Q]? = some (.cells #[.slice a3 3 c3] 25 (0, 0)) ∧ SeenF V a3 3 (forP [atF (R : Int) k] 0) ∧ (∀ f ∈ forP [atF (R : Int) k] 0, f.Ok) ∧ SeenA V (some ⟨E, 0, none⟩) 2 [(NN : Int), grain] ∧ evalV (forP [atF (R : Int) k] 0) [(NN : Int), grain] 100000 = (⟨0, Wk, T, dd, sp⟩, 0)) := ⟨kwV, bQ, HU.out.2.2.more kA, hfok, hza, he⟩
    unfold TreePost at htr
    rw [he] at htr
    obtain ⟨L, hL⟩ : ∃ L, L = treeV (forP [atF (R : Int) k] 0) [(NN : Int), grain] 100000 := ⟨_, rfl⟩
    rw [← hL] at htr hfl
    have HL : Hid ((L.map key).filter (fun x => x.1 == 2) = oneK 2 0 NN) := hfl
    clear hfl hL he kwV bQ hza hfok bA kA
    simp only at htr
    go_upto_region 7 with (go_at_call 10; refine htr.mono ?_; rintro _ w4 ⟨nv, rfl, k4, -, -, ho4⟩; obtain ⟨na, nc, rfl, hmx, hsn⟩ := seenN2_of (ho4 trivial); clear ho4)
    clear htr c0
    obtain ⟨m, hm⟩ : ∃ m, m = L.length := ⟨_, rfl⟩
    rw [← hm] at hmx hsn ⊢
    have kw4 : Keeps None w w4 := HV.out.1.trans k4 (fun _ f _ => f)
    have hev := eval_any a3 3 c3 (forP [atF (R : Int) k] 0) (some ⟨E, 0, none⟩) 2 2 [(NN : Int), grain] 100000 w4 (HT.out.more kw4) (HV.out.2.2.1.more k4) HV.out.2.2.2.1 (HV.out.2.2.2.2.1.more k4) (by omega) (by simp [okI])
    rw [HV.out.2.2.2.2.2] at hev
    unfold valC at hev
    simp only at hev
    have c0 : w4.cell? ⟨Q, 0, none⟩ = some (.slice a3 3 c3) := (blk_cell (blk_kept HV.out.2.1 k4 (fun f => f)) 0).trans rfl
    have HN : Hid (SeenN2 w4 na m L ∧ m = L.length ∧ m ≤ maxLen ∧ Keeps None w w4 ∧ w4.heap[Q]? = some (.cells #[.slice a3 3 c3] 25 (0, 0))) := ⟨hsn, hm, hmx, kw4, blk_kept HV.out.2.1 k4 (fun f => f)⟩
    clear hsn hm hmx kw4 k4
    go_upto_region 8 with (go_at_call 7; refine hev.mono ?_; rintro _ w5 ⟨rfl, k5⟩)
    clear hev c0
    have bV := heap_alloc_new w5 (.cells #[.int .i64 0, .int .i64 Wk, .int .i64 T, .int .i64 dd, .int .i64 sp] 31)
    have kV := Keeps.alloc None w5 (.cells #[.int .i64 0, .int .i64 Wk, .int .i64 T, .int .i64 dd, .int .i64 sp] 31)
    obtain ⟨U5, hU5⟩ : ∃ U5, U5 = w5.alloc (.cells #[.int .i64 0, .int .i64 Wk, .int .i64 T, .int .i64 dd, .int .i64 sp] 31) := ⟨_, rfl⟩
    obtain ⟨G5, hG5⟩ : ∃ G5, G5 = w5.heap.size := ⟨_, rfl⟩
    rw [← hU5] at kV bV
    rw [← hG5] at bV
    rw [← hU5, ← hG5]
    have y0 : U5.cell? ⟨G5, 0, none⟩ = some (.int .i64 0) := (blk_cell bV 0).trans rfl
    have kU5 : Keeps None w4 U5 := k5.trans kV (fun _ f _ => f)
    have HZ : Hid (Keeps None w U5 ∧ SeenN2 U5 na m L ∧ U5.cell? ⟨Q, 0, none⟩ = some (.slice a3 3 c3) ∧ m = L.length ∧ m ≤ maxLen) := ⟨HN.out.2.2.2.1.trans kU5 (fun _ f _ => f), HN.out.1.more kU5, (blk_cell (blk_kept HN.out.2.2.2.2 kU5 (fun f => f)) 0).trans rfl, HN.out.2.1, HN.out.2.2.1⟩
    clear hU5 hG5 bV kV kU5 k5
    have hmL : (m : Int) ≤ 9223372036854775807 := by have := HZ.out.2.2.2.2; unfold maxLen at this; omega
    go_wp2_with fail
    clear y0
    go_loopw [17, 18] (fun s17 s18 wr => ∃ i nx : Nat, i ≤ m ∧ s18 = .int .i64 i ∧ s17 = .int .i64 nx ∧ nx = seen2 L i ∧ Keeps None U5 wr) (fun _ i _ => m - (intOf i).toNat)
    case atStart => exact ⟨0, 0, Nat.zero_le _, rfl, rfl, by simp [seen2], Keeps.refl _ _⟩
    case round =>
      obtain ⟨i, nx, hi, rfl, rfl, hnx, hkr⟩ := hrel
      have hle := seen2_le HL.out i
      rw [← hnx] at hle
      have inx : (nx : Int) ≤ 101 := by omega
      by_cases him : i < m
      · have j1 : (i : Int) < (m : Int) := by omega
        have j2 : (0 : Int) ≤ (i : Int) := by omega
        obtain ⟨b, rfl, hcs⟩ := HZ.out.2.1.ex (by omega)
        obtain ⟨x, hx⟩ : ∃ x, L[i]? = some x := ⟨L[i]'(by have := HZ.out.2.2.2.1; omega), by simp⟩
        have y2 := hkr.cell (hcs i x hx).1 (fun f => f)
        have y5 := hkr.cell (hcs i x hx).2 (fun f => f)
        have yq := hkr.cell HZ.out.2.2.1 (fun f => f)
        have hnxt := seen2_next hx
        rw [← hnx] at hnxt
        by_cases h2 : x.func = 2
        · have harg := seen2_arg HL.out hx h2
          rw [← hnx] at harg
          rw [if_pos h2] at hnxt
          rw [h2] at y2
          rw [harg] at y5
          have HX : Hid (nx + 1 = seen2 L (i + 1) ∧ Keeps None U5 wr) := ⟨hnxt.symm, hkr⟩
          clear harg hnxt h2 hx hcs hnx hkr hle
          go_upto_region 14 with fail
          go_cut [80] (fun s80 wx => s80 = .bool true ∧ wx.cell? ⟨b, i * 7 + 5, none⟩ = some (.int .i64 (nx : Int)) ∧ Keeps None wr wx)
          case first =>
            go_region_held3 (fun w' => w'.cell? ⟨b, i * 7 + 2, none⟩ = some (.int .i64 2) ∧ w'.cell? ⟨Q, 0, none⟩ = some (.slice a3 3 c3)) (go_keep) (fail)
            all_goals (go_wp2_with fail; go_meet)
            all_goals exact ⟨rfl, (Keeps.drew None wr).cell y5 (fun f => f), Keeps.drew _ _⟩
          case rest =>
            obtain ⟨rfl, y5', hkc⟩ := hcut
            have HKC : Hid _ := hkc
            clear hkc y2 y5 yq
            go_wp2
            exact ⟨⟨i + 1, nx + 1, by omega, by simp, by simp, HX.out.1, HX.out.2.trans HKC.out (fun _ f _ => f)⟩, by simp [intOf]; omega⟩
        · rw [if_neg h2] at hnxt
          have t2 : (x.func == 2) = false := by simpa using h2
          have HX : Hid (nx = seen2 L (i + 1) ∧ Keeps None U5 wr) := ⟨hnxt.symm, hkr⟩
          generalize x.func = xf at *
          clear hnxt h2 hx hcs hnx hkr hle y5
          go_upto_region 14 with fail
          go_cut [80] (fun s80 wx => s80 = .bool false ∧ Keeps None wr wx)
          case first =>
            go_region_held3 (fun w' => w'.cell? ⟨b, i * 7 + 2, none⟩ = some (.int .i64 xf) ∧ w'.cell? ⟨Q, 0, none⟩ = some (.slice a3 3 c3)) (go_keep) (fail)
            all_goals (go_wp2_with fail; go_meet)
            all_goals exact ⟨by rw [show IntKind.i64.wrap 2 = 2 by rw [IntKind.wrap_i64]; omega, t2], Keeps.drew _ _⟩
          case rest =>
            obtain ⟨rfl, hkc⟩ := hcut
            have HKC : Hid _ := hkc
            clear hkc y2 yq t2
            go_wp2
            exact ⟨⟨i + 1, nx, by omega, by simp, rfl, HX.out.1, HX.out.2.trans HKC.out (fun _ f _ => f)⟩, by simp [intOf]; omega⟩
      · have j1 : ¬ ((i : Int) < (m : Int)) := by omega
        obtain rfl : i = m := by omega
        have hfin : nx = NN := by rw [hnx, HZ.out.2.2.2.1]; exact seen2_all HL.out
        have HX : Hid (Keeps None w wr) := HZ.out.1.trans hkr (fun _ f _ => f)
        subst hfin
        clear hnx hkr hle
        go_wp2
        go_ret
        exact ⟨rfl, HX.out⟩
end Go.Proofs.YtdpljbdnbmdokaaDoor
