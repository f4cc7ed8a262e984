import Derived.Test.YtlajblbfelcalaaScTwo
/-! The law's copy of a script. -/
namespace Go.Proofs.Ytlajblbfelcalaa
set_option linter.unusedVariables false
set_option maxRecDepth 20000
open Go.RowKit Go.HeapKit

theorem append_nil_run (g c : Nat) (ty : TypeId) (w : World) : (Builtin.append_ #[25, 25] ty #[.slice (some ⟨g, 0, none⟩) 0 0, .slice none 0 c]).run Try.prog w = .ok (.slice (some ⟨g, 0, none⟩) 0 0) w := by kernel_rfl
theorem row_app (base g : Nat) (a : Option Addr) (m c : Nat) (l : List Int) (w : World) (ty : TypeId) (hr : w.ownsRow base 3 1 (.slice (some ⟨g, 0, none⟩) 0 0) 0 (iv [])) (h : SeenN w a m l) (hs : m * 8 ≤ 140737488351232) (hb : base ≤ w.heap.size) :
    ∃ va vc w', (Builtin.append_ #[25, 25] ty #[.slice (some ⟨g, 0, none⟩) 0 0, .slice a m c]).run Try.prog w = .ok (.slice va m vc) w' ∧ w'.ownsRow base 3 1 (.slice va m vc) m (iv l) ∧ Keeps (· = g) w w' ∧ ∀ i, (Value.slice va m vc).ownBlock = some i → i = g ∨ w.heap.size ≤ i := by
  cases a with
  | none =>
    have hm : m = 0 := by
      by_cases h0 : 0 < m
      · obtain ⟨b, off, e, _⟩ := h.ex h0
        cases e
      · omega
    have hl : l = [] := List.eq_nil_of_length_eq_zero (by rw [← h.len]; exact hm)
    subst hm hl
    exact ⟨_, _, w, append_nil_run g c ty w, hr, Keeps.refl _ _, fun i e => .inl (by simp [Value.ownBlock] at e; exact e.symm)⟩
  | some x =>
    obtain ⟨i0, hi, hz0, hz1, hz2⟩ := info_parts Try.infoInt
    have hl := h.len
    obtain ⟨v', w1, hru, ho, hgr, hm, -⟩ := run_append_moved (P := Try.prog) w base 25 ty 3 i0 _ 1 8 Try.underlying25 hi hz0 hz1 hz2 rfl (by decide) _ 0 _ hr
      x m c (iv l) (by rw [iv_len]; omega) (by
        intro j u hu
        have hj : j < m := by have := (List.getElem?_eq_some_iff.1 hu).1; rw [iv_len] at this; omega
        obtain ⟨b, off, e, _, hc⟩ := h.ex (by omega)
        injection e with e
        subst e
        rw [add_none]
        have hlj : l[j]? = some (l[j]'(by omega)) := List.getElem?_eq_getElem _
        rw [hc j _ hlj]
        rw [iv_at l j _ hlj] at hu
        exact hu) (by
        intro u hu
        simp [iv] at hu
        obtain ⟨y, _, rfl⟩ := hu
        rfl) (by unfold maxLen; omega) (by omega) hb
    rw [Nat.zero_add, show iv [] ++ iv l = iv l from rfl] at ho
    obtain ⟨va, vc, rfl⟩ := row_shape ho
    refine ⟨va, vc, w1, hru, ho, Keeps.grown (S := (· = g)) hgr (fun i e => by simp [Value.ownBlock] at e; exact e.symm), fun i e => ?_⟩
    rcases hm with h2 | ⟨g2, h2, h3⟩
    · rw [h2] at e; simp [Value.ownBlock] at e; exact .inl e.symm
    · rw [h2] at e; injection e with e; subst e; exact .inr h3
theorem two_cells2 {w : World} {s : Nat} {v0 v1 x y : Value} (h0 : w.cell? ⟨s, 0, none⟩ = some x) (h1 : w.cell? ⟨s, 1, none⟩ = some y) : ((w.setCell ⟨s + 1, 0, none⟩ v0).setCell ⟨s + 1, 1, none⟩ v1).cell? ⟨s, 0, none⟩ = some x ∧ ((w.setCell ⟨s + 1, 0, none⟩ v0).setCell ⟨s + 1, 1, none⟩ v1).cell? ⟨s, 1, none⟩ = some y := by
  have hk : Keeps (· = s + 1) w ((w.setCell ⟨s + 1, 0, none⟩ v0).setCell ⟨s + 1, 1, none⟩ v1) := (Keeps.setCell (S := (· = s + 1)) w (a := ⟨s + 1, 0, none⟩) rfl _).andSet (x := ⟨s + 1, 1, none⟩) (.inl rfl) _
  exact ⟨hk.cell h0 (by simp), hk.cell h1 (by simp)⟩
section
variable {w : World} {B : Nat} {v0 v1 : Value} {n0 n1 : Nat} {l0 l1 : List Int}
theorem row_empty (w : World) (B : Nat) (hB : B ≤ w.heap.size) : (w.alloc (.cells #[] 3)).ownsRow B 3 1 (.slice (some ⟨w.heap.size, 0, none⟩) 0 0) 0 (iv []) :=
  ⟨by simp [iv], .inr ⟨w.heap.size, 0, #[], rfl, hB, blk_new _ _ _ rfl, Nat.le_refl _, by unfold maxLen; omega, rfl, rfl⟩⟩
theorem TwoR.new0 (h : TwoR w B v0 v1 n0 n1 l0 l1) (hB : B ≤ w.heap.size) : TwoR (w.alloc (.cells #[] 3)) B (.slice (some ⟨w.heap.size, 0, none⟩) 0 0) v1 0 n1 [] l1 :=
  ⟨row_empty w B hB, row_more h.r1 (keeps1 _ _), fun g e0 e1 => by simp [Value.ownBlock] at e0; have := own_lt h.r1 e1; omega⟩
theorem TwoR.new1 (h : TwoR w B v0 v1 n0 n1 l0 l1) (hB : B ≤ w.heap.size) : TwoR (w.alloc (.cells #[] 3)) B v0 (.slice (some ⟨w.heap.size, 0, none⟩) 0 0) n0 0 l0 [] :=
  ⟨row_more h.r0 (keeps1 _ _), row_empty w B hB, fun g e0 e1 => by simp [Value.ownBlock] at e1; have := own_lt h.r0 e0; omega⟩
theorem TwoR.all0 {g : Nat} (h : TwoR w B (.slice (some ⟨g, 0, none⟩) 0 0) v1 0 n1 [] l1) (hB : B ≤ w.heap.size) (a : Option Addr) (m c : Nat) (l : List Int) (ty : TypeId) (hl : SeenN w a m l) (hs : m * 8 ≤ 140737488351232) :
    ∃ va vc w', (Builtin.append_ #[25, 25] ty #[.slice (some ⟨g, 0, none⟩) 0 0, .slice a m c]).run Try.prog w = .ok (.slice va m vc) w' ∧ TwoR w' B (.slice va m vc) v1 m n1 l l1 ∧ Keeps (fun i => B ≤ i) w w' := by
  obtain ⟨va, vc, w', hr, ho, hk, hm⟩ := row_app B g a m c l w ty h.r0 hl hs hB
  refine ⟨va, vc, w', hr, ⟨ho, row_kept h.r1 hk (fun i e1 e0 => h.ap i (by simp [Value.ownBlock]; exact e0.symm) e1), fun i e0 e1 => ?_⟩, hk.mono (fun i e _ => by have := row_low h.r0 (g := g) rfl; omega)⟩
  rcases hm i e0 with h2 | h2
  · exact h.ap i (by simp [Value.ownBlock]; exact h2.symm) e1
  · have := own_lt h.r1 e1; omega
theorem TwoR.all1 {g : Nat} (h : TwoR w B v0 (.slice (some ⟨g, 0, none⟩) 0 0) n0 0 l0 []) (hB : B ≤ w.heap.size) (a : Option Addr) (m c : Nat) (l : List Int) (ty : TypeId) (hl : SeenN w a m l) (hs : m * 8 ≤ 140737488351232) :
    ∃ va vc w', (Builtin.append_ #[25, 25] ty #[.slice (some ⟨g, 0, none⟩) 0 0, .slice a m c]).run Try.prog w = .ok (.slice va m vc) w' ∧ TwoR w' B v0 (.slice va m vc) n0 m l0 l ∧ Keeps (fun i => B ≤ i) w w' := by
  obtain ⟨va, vc, w', hr, ho, hk, hm⟩ := row_app B g a m c l w ty h.r1 hl hs hB
  refine ⟨va, vc, w', hr, ⟨row_kept h.r0 hk (fun i e0 e1 => h.ap i e0 (by simp [Value.ownBlock]; exact e1.symm)), ho, fun i e0 e1 => ?_⟩, hk.mono (fun i e _ => by have := row_low h.r1 (g := g) rfl; omega)⟩
  rcases hm i e1 with h2 | h2
  · exact h.ap i e0 (by simp [Value.ownBlock]; exact h2.symm)
  · have := own_lt h.r0 e0; omega
end
set_option maxHeartbeats 3200000 in
theorem copied_any (ap ad : Option Addr) (np cp nd cd : Nat) (lp ld : List Int) (w : World) (hp : SeenN w ap np lp) (hd : SeenN w ad nd ld) (hs : np * 8 ≤ 140737488351232) (hs2 : nd * 8 ≤ 140737488351232) :
    Calls Try.prog 15 #[.agg #[.slice ap np cp, .slice ad nd cd]] w fun e w' => ∃ va vc ua uc, e = .returned (.agg #[.slice va np vc, .slice ua nd uc]) ∧ TwoR w' w.heap.size (.slice va np vc) (.slice ua nd uc) np nd lp ld ∧ Keeps None w w' := by
  have HS : Hid (SeenN w ap np lp ∧ SeenN w ad nd ld) := ⟨hp, hd⟩
  clear hp hd
  obtain ⟨s0, hs0⟩ : ∃ s0, s0 = w.heap.size := ⟨_, rfl⟩
  have hb0 := blk_old (blk_new w (.cells #[.slice ap np cp, .slice ad nd cd] 37) s0 hs0.symm) (.cells #[.slice none 0 0, .slice none 0 0] 37)
  have hb1 := blk_new (w.alloc (.cells #[.slice ap np cp, .slice ad nd cd] 37)) (.cells #[.slice none 0 0, .slice none 0 0] 37) (s0 + 1) (by simp; omega)
  have hkb := (keeps1 w (.cells #[.slice ap np cp, .slice ad nd cd] 37)).andAlloc (.cells #[.slice none 0 0, .slice none 0 0] 37)
  have hsz : ((w.alloc (.cells #[.slice ap np cp, .slice ad nd cd] 37)).alloc (.cells #[.slice none 0 0, .slice none 0 0] 37)).heap.size = s0 + 1 + 1 := by simp; omega
  go_enter Try.func15, Try.ntmps15
  go_upto_region 1 with fail
  rw [← hs0]
  generalize (w.alloc (.cells #[.slice ap np cp, .slice ad nd cd] 37)).alloc (.cells #[.slice none 0 0, .slice none 0 0] 37) = wb at *
  have HB : Hid (wb.heap[s0]? = some (.cells #[.slice ap np cp, .slice ad nd cd] 37 (0, 0)) ∧ wb.heap[s0 + 1]? = some (.cells #[.slice none 0 0, .slice none 0 0] 37 (0, 0)) ∧ Keeps None w wb ∧ wb.heap.size = s0 + 1 + 1 ∧ s0 = w.heap.size) := ⟨hb0, hb1, hkb, hsz, hs0⟩
  have c0 : wb.cell? ⟨s0, 0, none⟩ = some (.slice ap np cp) := (blk_cell hb0 0).trans rfl
  have c1 : wb.cell? ⟨s0, 1, none⟩ = some (.slice ad nd cd) := (blk_cell hb0 1).trans rfl
  have HSB : Hid (∀ wx, Keeps None wb wx → SeenN wx ap np lp ∧ SeenN wx ad nd ld) := fun wx hx => ⟨(HS.out.1.more hkb).more hx, (HS.out.2.more hkb).more hx⟩
  have hT : TwoR wb.drew wb.heap.size (.slice none 0 0) (.slice none 0 0) 0 0 [] [] := ⟨row_nil _ _ _ _, row_nil _ _ _ _, fun g e => by simp [Value.ownBlock] at e⟩
  have hQ : Keeps None wb wb.drew := Keeps.drew None wb
  clear hb0 hb1 hkb hsz hs0 HS
  refine wp_region_held_drew (S := (fun w' => w'.cell? ⟨s0, 0, none⟩ = some (.slice ap np cp) ∧ w'.cell? ⟨s0, 1, none⟩ = some (.slice ad nd cd))) (by kernel_rfl) ?_ (fun hHeld => ?_)
  · (try dsimp only); first | with_reducible exact ⟨hQ.cell c0 (fun f => f), hQ.cell c1 (fun f => f)⟩ | with_reducible exact two_cells2 (hQ.cell c0 (fun f => f)) (hQ.cell c1 (fun f => f)) | exact ⟨hQ.cell c0 (fun f => f), hQ.cell c1 (fun f => f)⟩
  refine wpAnyH_take (i := 1) (oi := { dst := some 4, op := Op.fieldAddr 37 (Operand.tmp 1) 0, type := 0, pos := "law.go:30", after := #[], guard := none }) (v := ?_) rfl (by kernel_rfl) (by kernel_rfl) (by kernel_rfl) (fun _ _ _ h => h) (Or.inl ⟨by rfl, ?_⟩) (by assumption) ?_
  rotate_left
  · (intro wz hSw; (try dsimp only at hSw); go_simp; try with_reducible rfl)
  simp only [Act.put, List.setIfInBounds_toArray, List.set_cons_zero, List.set_cons_succ]
  refine wpAnyH_take (i := 2) (oi := { dst := some 5, op := Op.load 25 (Operand.tmp 4), type := 25, pos := "law.go:30", after := #[{ on := 1, ground := Ground.data }], guard := none }) (v := ?_) rfl (by kernel_rfl) (by kernel_rfl) (by kernel_rfl) (fun _ _ _ h => h) (Or.inl ⟨by rfl, ?_⟩) (by assumption) ?_
  rotate_left
  · (intro wz hSw; (try dsimp only at hSw); go_simp; try with_reducible rfl)
  simp only [Act.put, List.setIfInBounds_toArray, List.set_cons_zero, List.set_cons_succ]
  refine wpAnyH_take (i := 5) (oi := { dst := some 8, op := Op.fieldAddr 37 (Operand.tmp 1) 1, type := 0, pos := "law.go:30", after := #[], guard := none }) (v := ?_) rfl (by kernel_rfl) (by kernel_rfl) (by kernel_rfl) (fun _ _ _ h => h) (Or.inl ⟨by rfl, ?_⟩) (by assumption) ?_
  rotate_left
  · (intro wz hSw; (try dsimp only at hSw); go_simp; try with_reducible rfl)
  simp only [Act.put, List.setIfInBounds_toArray, List.set_cons_zero, List.set_cons_succ]
  refine wpAnyH_take (i := 6) (oi := { dst := some 9, op := Op.load 25 (Operand.tmp 8), type := 25, pos := "law.go:30", after := #[{ on := 5, ground := Ground.data }], guard := none }) (v := ?_) rfl (by kernel_rfl) (by kernel_rfl) (by kernel_rfl) (fun _ _ _ h => h) (Or.inl ⟨by rfl, ?_⟩) (by assumption) ?_
  rotate_left
  · (intro wz hSw; (try dsimp only at hSw); go_simp; try with_reducible rfl)
  simp only [Act.put, List.setIfInBounds_toArray, List.set_cons_zero, List.set_cons_succ]
  refine wpAnyH_ready (rs := [0, 4]) (by kernel_rfl) (by simp) ?_
  refine AllReadyH.cons (o := { dst := some 3, op := Op.buildSlice 25 0 #[], type := 25, pos := "law.go:30", after := #[], guard := none }) rfl (fun K hK => ?_) ?_
  · go_simp
    replace hT := hT.new0 hQ.size
    replace hQ := hQ.andAlloc (.cells #[] 3)
    refine hK.out _ _ ?_ (fun hHeld2 => ?_)
    · (try dsimp only); first | with_reducible exact ⟨hQ.cell c0 (fun f => f), hQ.cell c1 (fun f => f)⟩ | with_reducible exact two_cells2 (hQ.cell c0 (fun f => f)) (hQ.cell c1 (fun f => f)) | exact ⟨hQ.cell c0 (fun f => f), hQ.cell c1 (fun f => f)⟩
    clear hK K
    try simp only [Act.put, List.setIfInBounds_toArray, List.set_cons_zero, List.set_cons_succ]
    refine wpAnyH_ready (rs := [3, 4]) (by kernel_rfl) (by simp) ?_
    refine AllReadyH.cons (o := { dst := some 6, op := Op.call { callee := Callee.builtin Builtin.append, args := #[Operand.tmp 3, Operand.tmp 5], argTypes := #[25, 25] }, type := 25, pos := "law.go:30", after := #[{ on := 0, ground := Ground.data }, { on := 2, ground := Ground.data }], guard := none }) rfl (fun K hK => ?_) ?_
    · (obtain ⟨va, vc, wA, hrA, hT2, hkA⟩ := hT.all0 hQ.size ap np cp lp 25 (HSB.out _ hQ).1 hs; refine step_append_run rfl (.tmp 3) (.tmp 5) 25 25 rfl (by simp [Act.eval]) (by simp [Act.eval]) hrA ?_)
      replace hQ := hQ.trans hkA (fun i e hi => by omega)
      replace hT := hT2
      clear hT2 hkA hrA
      have b6 := blk_kept HB.out.2.1 hQ (fun f => f); have r60 := (blk_cell b6 0).trans rfl; have r61 := (blk_cell b6 1).trans rfl; have f60 := blk_free b6 0; have f61 := blk_free b6 1
      refine hK.out _ _ ?_ (fun hHeld2 => ?_)
      · (try dsimp only); first | with_reducible exact ⟨hQ.cell c0 (fun f => f), hQ.cell c1 (fun f => f)⟩ | with_reducible exact two_cells2 (hQ.cell c0 (fun f => f)) (hQ.cell c1 (fun f => f)) | exact ⟨hQ.cell c0 (fun f => f), hQ.cell c1 (fun f => f)⟩
      clear hK K
      try simp only [Act.put, List.setIfInBounds_toArray, List.set_cons_zero, List.set_cons_succ]
      refine wpAnyH_ready (rs := [4]) (by kernel_rfl) (by simp) ?_
      refine AllReadyH.cons (o := { dst := some 7, op := Op.buildSlice 25 0 #[], type := 25, pos := "law.go:30", after := #[], guard := none }) rfl (fun K hK => ?_) ?_
      · go_simp
        replace hT := hT.new1 hQ.size
        replace hQ := hQ.andAlloc (.cells #[] 3)
        refine hK.out _ _ ?_ (fun hHeld2 => ?_)
        · (try dsimp only); first | with_reducible exact ⟨hQ.cell c0 (fun f => f), hQ.cell c1 (fun f => f)⟩ | with_reducible exact two_cells2 (hQ.cell c0 (fun f => f)) (hQ.cell c1 (fun f => f)) | exact ⟨hQ.cell c0 (fun f => f), hQ.cell c1 (fun f => f)⟩
        clear hK K
        try simp only [Act.put, List.setIfInBounds_toArray, List.set_cons_zero, List.set_cons_succ]
        refine wpAnyH_ready (rs := [7]) (by kernel_rfl) (by simp) ?_
        refine AllReadyH.cons (o := { dst := some 10, op := Op.call { callee := Callee.builtin Builtin.append, args := #[Operand.tmp 7, Operand.tmp 9], argTypes := #[25, 25] }, type := 25, pos := "law.go:30", after := #[{ on := 4, ground := Ground.data }, { on := 6, ground := Ground.data }, { on := 3, ground := Ground.chain }], guard := none }) rfl (fun K hK => ?_) ?_
        · (obtain ⟨ua, uc, wU, hrU, hT2, hkA⟩ := hT.all1 hQ.size ad nd cd ld 25 (HSB.out _ hQ).2 hs2; refine step_append_run rfl (.tmp 7) (.tmp 9) 25 25 rfl (by simp [Act.eval]) (by simp [Act.eval]) hrU ?_)
          replace hQ := hQ.trans hkA (fun i e hi => by omega)
          replace hT := hT2
          clear hT2 hkA hrU
          have b6 := blk_kept HB.out.2.1 hQ (fun f => f); have r60 := (blk_cell b6 0).trans rfl; have r61 := (blk_cell b6 1).trans rfl; have f60 := blk_free b6 0; have f61 := blk_free b6 1
          refine hK.out _ _ ?_ (fun hHeld2 => ?_)
          · (try dsimp only); first | with_reducible exact ⟨hQ.cell c0 (fun f => f), hQ.cell c1 (fun f => f)⟩ | with_reducible exact two_cells2 (hQ.cell c0 (fun f => f)) (hQ.cell c1 (fun f => f)) | exact ⟨hQ.cell c0 (fun f => f), hQ.cell c1 (fun f => f)⟩
          clear hK K
          try simp only [Act.put, List.setIfInBounds_toArray, List.set_cons_zero, List.set_cons_succ]
          refine wpAnyH_take (i := 8) (oi := { dst := some 11, op := Op.build 37 #[(0, Operand.tmp 6), (1, Operand.tmp 10)], type := 37, pos := "law.go:30", after := #[{ on := 3, ground := Ground.data }, { on := 7, ground := Ground.data }], guard := none }) (v := ?_) rfl (by kernel_rfl) (by kernel_rfl) (by kernel_rfl) (fun _ _ _ h => h) (Or.inl ⟨by rfl, ?_⟩) (by assumption) ?_
          rotate_left
          · (intro wz hSw; (try dsimp only at hSw); go_simp; try with_reducible rfl)
          simp only [Act.put, List.setIfInBounds_toArray, List.set_cons_zero, List.set_cons_succ]
          refine wpAnyH_ready (rs := [9]) (by kernel_rfl) (by simp) ?_
          refine AllReadyH.cons (o := { dst := none, op := Op.store 37 (Operand.tmp 2) (Operand.tmp 11), type := 0, pos := "law.go:30", after := #[{ on := 8, ground := Ground.data }, { on := 7, ground := Ground.chain }, { on := 0, ground := Ground.phase }, { on := 1, ground := Ground.phase }, { on := 2, ground := Ground.phase }, { on := 3, ground := Ground.phase }, { on := 4, ground := Ground.phase }, { on := 5, ground := Ground.phase }, { on := 6, ground := Ground.phase }, { on := 7, ground := Ground.phase }, { on := 8, ground := Ground.phase }], guard := none }) rfl (fun K hK => ?_) ?_
          · go_simp
            refine hK.out _ _ ?_ (fun hHeld2 => ?_)
            · (try dsimp only); first | with_reducible exact ⟨hQ.cell c0 (fun f => f), hQ.cell c1 (fun f => f)⟩ | with_reducible exact two_cells2 (hQ.cell c0 (fun f => f)) (hQ.cell c1 (fun f => f)) | exact ⟨hQ.cell c0 (fun f => f), hQ.cell c1 (fun f => f)⟩
            clear hK K
            try simp only [Act.put, List.setIfInBounds_toArray, List.set_cons_zero, List.set_cons_succ]
            refine wpAnyH_done (by kernel_rfl) ?_ _
            go_wp2_with fail
            refine script_end1 2 rfl rfl b6 rfl rfl _ _ (fun w' hk => ⟨va, vc, ua, uc, rfl, ?_, ?_⟩)
            · exact (hT.kept hk (fun g h1 _ _ => by have := HB.out.2.2.2.1; omega)).base (by have := HB.out.2.2.2; omega)
            · exact (HB.out.2.2.1.trans hQ (fun _ f _ => f)).trans hk (fun i e hi => by have := HB.out.2.2.2; omega)
          exact AllReadyH.nil
        exact AllReadyH.nil
      exact AllReadyH.nil
    refine AllReadyH.cons (o := { dst := some 7, op := Op.buildSlice 25 0 #[], type := 25, pos := "law.go:30", after := #[], guard := none }) rfl (fun K hK => ?_) ?_
    · go_simp
      replace hT := hT.new1 hQ.size
      replace hQ := hQ.andAlloc (.cells #[] 3)
      refine hK.out _ _ ?_ (fun hHeld2 => ?_)
      · (try dsimp only); first | with_reducible exact ⟨hQ.cell c0 (fun f => f), hQ.cell c1 (fun f => f)⟩ | with_reducible exact two_cells2 (hQ.cell c0 (fun f => f)) (hQ.cell c1 (fun f => f)) | exact ⟨hQ.cell c0 (fun f => f), hQ.cell c1 (fun f => f)⟩
      clear hK K
      try simp only [Act.put, List.setIfInBounds_toArray, List.set_cons_zero, List.set_cons_succ]
      refine wpAnyH_ready (rs := [3]) (by kernel_rfl) (by simp) ?_
      refine AllReadyH.cons (o := { dst := some 6, op := Op.call { callee := Callee.builtin Builtin.append, args := #[Operand.tmp 3, Operand.tmp 5], argTypes := #[25, 25] }, type := 25, pos := "law.go:30", after := #[{ on := 0, ground := Ground.data }, { on := 2, ground := Ground.data }], guard := none }) rfl (fun K hK => ?_) ?_
      · (obtain ⟨va, vc, wA, hrA, hT2, hkA⟩ := hT.all0 hQ.size ap np cp lp 25 (HSB.out _ hQ).1 hs; refine step_append_run rfl (.tmp 3) (.tmp 5) 25 25 rfl (by simp [Act.eval]) (by simp [Act.eval]) hrA ?_)
        replace hQ := hQ.trans hkA (fun i e hi => by omega)
        replace hT := hT2
        clear hT2 hkA hrA
        have b6 := blk_kept HB.out.2.1 hQ (fun f => f); have r60 := (blk_cell b6 0).trans rfl; have r61 := (blk_cell b6 1).trans rfl; have f60 := blk_free b6 0; have f61 := blk_free b6 1
        refine hK.out _ _ ?_ (fun hHeld2 => ?_)
        · (try dsimp only); first | with_reducible exact ⟨hQ.cell c0 (fun f => f), hQ.cell c1 (fun f => f)⟩ | with_reducible exact two_cells2 (hQ.cell c0 (fun f => f)) (hQ.cell c1 (fun f => f)) | exact ⟨hQ.cell c0 (fun f => f), hQ.cell c1 (fun f => f)⟩
        clear hK K
        try simp only [Act.put, List.setIfInBounds_toArray, List.set_cons_zero, List.set_cons_succ]
        refine wpAnyH_ready (rs := [7]) (by kernel_rfl) (by simp) ?_
        refine AllReadyH.cons (o := { dst := some 10, op := Op.call { callee := Callee.builtin Builtin.append, args := #[Operand.tmp 7, Operand.tmp 9], argTypes := #[25, 25] }, type := 25, pos := "law.go:30", after := #[{ on := 4, ground := Ground.data }, { on := 6, ground := Ground.data }, { on := 3, ground := Ground.chain }], guard := none }) rfl (fun K hK => ?_) ?_
        · (obtain ⟨ua, uc, wU, hrU, hT2, hkA⟩ := hT.all1 hQ.size ad nd cd ld 25 (HSB.out _ hQ).2 hs2; refine step_append_run rfl (.tmp 7) (.tmp 9) 25 25 rfl (by simp [Act.eval]) (by simp [Act.eval]) hrU ?_)
          replace hQ := hQ.trans hkA (fun i e hi => by omega)
          replace hT := hT2
          clear hT2 hkA hrU
          have b6 := blk_kept HB.out.2.1 hQ (fun f => f); have r60 := (blk_cell b6 0).trans rfl; have r61 := (blk_cell b6 1).trans rfl; have f60 := blk_free b6 0; have f61 := blk_free b6 1
          refine hK.out _ _ ?_ (fun hHeld2 => ?_)
          · (try dsimp only); first | with_reducible exact ⟨hQ.cell c0 (fun f => f), hQ.cell c1 (fun f => f)⟩ | with_reducible exact two_cells2 (hQ.cell c0 (fun f => f)) (hQ.cell c1 (fun f => f)) | exact ⟨hQ.cell c0 (fun f => f), hQ.cell c1 (fun f => f)⟩
          clear hK K
          try simp only [Act.put, List.setIfInBounds_toArray, List.set_cons_zero, List.set_cons_succ]
          refine wpAnyH_take (i := 8) (oi := { dst := some 11, op := Op.build 37 #[(0, Operand.tmp 6), (1, Operand.tmp 10)], type := 37, pos := "law.go:30", after := #[{ on := 3, ground := Ground.data }, { on := 7, ground := Ground.data }], guard := none }) (v := ?_) rfl (by kernel_rfl) (by kernel_rfl) (by kernel_rfl) (fun _ _ _ h => h) (Or.inl ⟨by rfl, ?_⟩) (by assumption) ?_
          rotate_left
          · (intro wz hSw; (try dsimp only at hSw); go_simp; try with_reducible rfl)
          simp only [Act.put, List.setIfInBounds_toArray, List.set_cons_zero, List.set_cons_succ]
          refine wpAnyH_ready (rs := [9]) (by kernel_rfl) (by simp) ?_
          refine AllReadyH.cons (o := { dst := none, op := Op.store 37 (Operand.tmp 2) (Operand.tmp 11), type := 0, pos := "law.go:30", after := #[{ on := 8, ground := Ground.data }, { on := 7, ground := Ground.chain }, { on := 0, ground := Ground.phase }, { on := 1, ground := Ground.phase }, { on := 2, ground := Ground.phase }, { on := 3, ground := Ground.phase }, { on := 4, ground := Ground.phase }, { on := 5, ground := Ground.phase }, { on := 6, ground := Ground.phase }, { on := 7, ground := Ground.phase }, { on := 8, ground := Ground.phase }], guard := none }) rfl (fun K hK => ?_) ?_
          · go_simp
            refine hK.out _ _ ?_ (fun hHeld2 => ?_)
            · (try dsimp only); first | with_reducible exact ⟨hQ.cell c0 (fun f => f), hQ.cell c1 (fun f => f)⟩ | with_reducible exact two_cells2 (hQ.cell c0 (fun f => f)) (hQ.cell c1 (fun f => f)) | exact ⟨hQ.cell c0 (fun f => f), hQ.cell c1 (fun f => f)⟩
            clear hK K
            try simp only [Act.put, List.setIfInBounds_toArray, List.set_cons_zero, List.set_cons_succ]
            refine wpAnyH_done (by kernel_rfl) ?_ _
            go_wp2_with fail
            refine script_end1 2 rfl rfl b6 rfl rfl _ _ (fun w' hk => ⟨va, vc, ua, uc, rfl, ?_, ?_⟩)
            · exact (hT.kept hk (fun g h1 _ _ => by have := HB.out.2.2.2.1; omega)).base (by have := HB.out.2.2.2; omega)
            · exact (HB.out.2.2.1.trans hQ (fun _ f _ => f)).trans hk (fun i e hi => by have := HB.out.2.2.2; omega)
          exact AllReadyH.nil
        exact AllReadyH.nil
      exact AllReadyH.nil
    exact AllReadyH.nil
  refine AllReadyH.cons (o := { dst := some 7, op := Op.buildSlice 25 0 #[], type := 25, pos := "law.go:30", after := #[], guard := none }) rfl (fun K hK => ?_) ?_
  · go_simp
    replace hT := hT.new1 hQ.size
    replace hQ := hQ.andAlloc (.cells #[] 3)
    refine hK.out _ _ ?_ (fun hHeld2 => ?_)
    · (try dsimp only); first | with_reducible exact ⟨hQ.cell c0 (fun f => f), hQ.cell c1 (fun f => f)⟩ | with_reducible exact two_cells2 (hQ.cell c0 (fun f => f)) (hQ.cell c1 (fun f => f)) | exact ⟨hQ.cell c0 (fun f => f), hQ.cell c1 (fun f => f)⟩
    clear hK K
    try simp only [Act.put, List.setIfInBounds_toArray, List.set_cons_zero, List.set_cons_succ]
    refine wpAnyH_ready (rs := [0]) (by kernel_rfl) (by simp) ?_
    refine AllReadyH.cons (o := { dst := some 3, op := Op.buildSlice 25 0 #[], type := 25, pos := "law.go:30", after := #[], guard := none }) rfl (fun K hK => ?_) ?_
    · go_simp
      replace hT := hT.new0 hQ.size
      replace hQ := hQ.andAlloc (.cells #[] 3)
      refine hK.out _ _ ?_ (fun hHeld2 => ?_)
      · (try dsimp only); first | with_reducible exact ⟨hQ.cell c0 (fun f => f), hQ.cell c1 (fun f => f)⟩ | with_reducible exact two_cells2 (hQ.cell c0 (fun f => f)) (hQ.cell c1 (fun f => f)) | exact ⟨hQ.cell c0 (fun f => f), hQ.cell c1 (fun f => f)⟩
      clear hK K
      try simp only [Act.put, List.setIfInBounds_toArray, List.set_cons_zero, List.set_cons_succ]
      refine wpAnyH_ready (rs := [3]) (by kernel_rfl) (by simp) ?_
      refine AllReadyH.cons (o := { dst := some 6, op := Op.call { callee := Callee.builtin Builtin.append, args := #[Operand.tmp 3, Operand.tmp 5], argTypes := #[25, 25] }, type := 25, pos := "law.go:30", after := #[{ on := 0, ground := Ground.data }, { on := 2, ground := Ground.data }], guard := none }) rfl (fun K hK => ?_) ?_
      · (obtain ⟨va, vc, wA, hrA, hT2, hkA⟩ := hT.all0 hQ.size ap np cp lp 25 (HSB.out _ hQ).1 hs; refine step_append_run rfl (.tmp 3) (.tmp 5) 25 25 rfl (by simp [Act.eval]) (by simp [Act.eval]) hrA ?_)
        replace hQ := hQ.trans hkA (fun i e hi => by omega)
        replace hT := hT2
        clear hT2 hkA hrA
        have b6 := blk_kept HB.out.2.1 hQ (fun f => f); have r60 := (blk_cell b6 0).trans rfl; have r61 := (blk_cell b6 1).trans rfl; have f60 := blk_free b6 0; have f61 := blk_free b6 1
        refine hK.out _ _ ?_ (fun hHeld2 => ?_)
        · (try dsimp only); first | with_reducible exact ⟨hQ.cell c0 (fun f => f), hQ.cell c1 (fun f => f)⟩ | with_reducible exact two_cells2 (hQ.cell c0 (fun f => f)) (hQ.cell c1 (fun f => f)) | exact ⟨hQ.cell c0 (fun f => f), hQ.cell c1 (fun f => f)⟩
        clear hK K
        try simp only [Act.put, List.setIfInBounds_toArray, List.set_cons_zero, List.set_cons_succ]
        refine wpAnyH_ready (rs := [7]) (by kernel_rfl) (by simp) ?_
        refine AllReadyH.cons (o := { dst := some 10, op := Op.call { callee := Callee.builtin Builtin.append, args := #[Operand.tmp 7, Operand.tmp 9], argTypes := #[25, 25] }, type := 25, pos := "law.go:30", after := #[{ on := 4, ground := Ground.data }, { on := 6, ground := Ground.data }, { on := 3, ground := Ground.chain }], guard := none }) rfl (fun K hK => ?_) ?_
        · (obtain ⟨ua, uc, wU, hrU, hT2, hkA⟩ := hT.all1 hQ.size ad nd cd ld 25 (HSB.out _ hQ).2 hs2; refine step_append_run rfl (.tmp 7) (.tmp 9) 25 25 rfl (by simp [Act.eval]) (by simp [Act.eval]) hrU ?_)
          replace hQ := hQ.trans hkA (fun i e hi => by omega)
          replace hT := hT2
          clear hT2 hkA hrU
          have b6 := blk_kept HB.out.2.1 hQ (fun f => f); have r60 := (blk_cell b6 0).trans rfl; have r61 := (blk_cell b6 1).trans rfl; have f60 := blk_free b6 0; have f61 := blk_free b6 1
          refine hK.out _ _ ?_ (fun hHeld2 => ?_)
          · (try dsimp only); first | with_reducible exact ⟨hQ.cell c0 (fun f => f), hQ.cell c1 (fun f => f)⟩ | with_reducible exact two_cells2 (hQ.cell c0 (fun f => f)) (hQ.cell c1 (fun f => f)) | exact ⟨hQ.cell c0 (fun f => f), hQ.cell c1 (fun f => f)⟩
          clear hK K
          try simp only [Act.put, List.setIfInBounds_toArray, List.set_cons_zero, List.set_cons_succ]
          refine wpAnyH_take (i := 8) (oi := { dst := some 11, op := Op.build 37 #[(0, Operand.tmp 6), (1, Operand.tmp 10)], type := 37, pos := "law.go:30", after := #[{ on := 3, ground := Ground.data }, { on := 7, ground := Ground.data }], guard := none }) (v := ?_) rfl (by kernel_rfl) (by kernel_rfl) (by kernel_rfl) (fun _ _ _ h => h) (Or.inl ⟨by rfl, ?_⟩) (by assumption) ?_
          rotate_left
          · (intro wz hSw; (try dsimp only at hSw); go_simp; try with_reducible rfl)
          simp only [Act.put, List.setIfInBounds_toArray, List.set_cons_zero, List.set_cons_succ]
          refine wpAnyH_ready (rs := [9]) (by kernel_rfl) (by simp) ?_
          refine AllReadyH.cons (o := { dst := none, op := Op.store 37 (Operand.tmp 2) (Operand.tmp 11), type := 0, pos := "law.go:30", after := #[{ on := 8, ground := Ground.data }, { on := 7, ground := Ground.chain }, { on := 0, ground := Ground.phase }, { on := 1, ground := Ground.phase }, { on := 2, ground := Ground.phase }, { on := 3, ground := Ground.phase }, { on := 4, ground := Ground.phase }, { on := 5, ground := Ground.phase }, { on := 6, ground := Ground.phase }, { on := 7, ground := Ground.phase }, { on := 8, ground := Ground.phase }], guard := none }) rfl (fun K hK => ?_) ?_
          · go_simp
            refine hK.out _ _ ?_ (fun hHeld2 => ?_)
            · (try dsimp only); first | with_reducible exact ⟨hQ.cell c0 (fun f => f), hQ.cell c1 (fun f => f)⟩ | with_reducible exact two_cells2 (hQ.cell c0 (fun f => f)) (hQ.cell c1 (fun f => f)) | exact ⟨hQ.cell c0 (fun f => f), hQ.cell c1 (fun f => f)⟩
            clear hK K
            try simp only [Act.put, List.setIfInBounds_toArray, List.set_cons_zero, List.set_cons_succ]
            refine wpAnyH_done (by kernel_rfl) ?_ _
            go_wp2_with fail
            refine script_end1 2 rfl rfl b6 rfl rfl _ _ (fun w' hk => ⟨va, vc, ua, uc, rfl, ?_, ?_⟩)
            · exact (hT.kept hk (fun g h1 _ _ => by have := HB.out.2.2.2.1; omega)).base (by have := HB.out.2.2.2; omega)
            · exact (HB.out.2.2.1.trans hQ (fun _ f _ => f)).trans hk (fun i e hi => by have := HB.out.2.2.2; omega)
          exact AllReadyH.nil
        exact AllReadyH.nil
      exact AllReadyH.nil
    exact AllReadyH.nil
  exact AllReadyH.nil
end Go.Proofs.Ytlajblbfelcalaa
