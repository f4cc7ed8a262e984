import Derived.Test.YthignlailbekmaaDoorPkBG
import Derived.Test.YthignlailbekmaaDoorPkAO
import Derived.Test.YthignlailbekmaaDoorPkAV
/-! The document's Eval and Tree: the faces. -/
namespace Go.Proofs.YthignlailbekmaaDoor
set_option linter.unusedVariables false
set_option maxRecDepth 20000
set_option linter.unusedSimpArgs false
open Go.RowKit Go.HeapKit Go.PlainOps

theorem results_ct {P : Program} {fn : Func} {q r : Tmp} {t : TypeId} (h : fn.results = #[.cell q t, .tmp r]) {tmps : Array Value} {w : World} {g : Nat} (ha : tmps.getD q undef = .pointer (some ⟨g, 0, none⟩)) {v : Value}
    (hl : (loadVar t ⟨g, 0, none⟩).run P w = .ok v w) : (results fn tmps).run P w = .ok (.tuple #[v, tmps.getD r undef]) w := by
  have ha' : tmps[q]?.getD undef = .pointer (some ⟨g, 0, none⟩) := by simpa using ha
  simp [results, h, ha', asAddr, hl]
set_option maxHeartbeats 2000000 in
theorem reval_any (a : Option Addr) (n c : Nat) (l : List Fn) (aa : Option Addr) (an ac : Nat) (zs : List Int) (fuel : Int) (w : World) (hS : SeenF w a n l) (hok : ∀ f ∈ l, f.Ok) (hZ : SeenA w aa an zs) (hZ2 : an ≤ 9223372036854775807) (hfu : okI fuel) :
    Calls Tryd.prog 7 #[.agg #[.slice a n c], .slice aa an ac, .int .i64 fuel] w fun e w' => e = .returned (.tuple #[.agg (valC (evalV l zs fuel).1), .int .i64 (evalV l zs fuel).2]) ∧ Keeps None w w' := by
  obtain ⟨B, hB⟩ : ∃ B, B = w.heap.size := ⟨_, rfl⟩
  obtain ⟨b1, b2⟩ := two_boxes w #[.slice a n c] (valC zeroVal) 24 28
  have hk2 := keeps2 w (.cells #[.slice a n c] 24) (.cells (valC zeroVal) 28)
  obtain ⟨W, hW⟩ : ∃ W, W = (w.alloc (.cells #[.slice a n c] 24)).alloc (.cells (valC zeroVal) 28) := ⟨_, rfl⟩
  rw [← hW, ← hB] at b1 b2
  rw [← hW] at hk2
  have hbo := rboth_any a n c l aa an ac zs fuel W (hS.more hk2) hok (hZ.more hk2) hZ2 hfu
  have d0 : W.cell? ⟨B, 0, none⟩ = some (.slice a n c) := (blk_cell b1 0).trans rfl
  have HX : Hid (B = w.heap.size ∧ Keeps None w W ∧ W.heap[B + 1]? = some (.cells (valC zeroVal) 28 (0, 0))) := ⟨hB, hk2, b2⟩
  unfold BothPost at hbo
  obtain ⟨⟨v0, v1, v2, v3, v4⟩, hev⟩ : ∃ ev, ev = (evalV l zs fuel).1 := ⟨_, rfl⟩
  rw [← hev] at hbo ⊢
  generalize (evalV l zs fuel).2 = er at *
  generalize treeV l zs fuel = tv at *
  unfold valC at hbo
  clear hS hok hZ b1 b2 hk2 hev
  go_enter Tryd.func7, Tryd.ntmps7
  go_upto_region 1 with fail
  change Code.wp _ _ _ _ ((w.alloc (.cells #[.slice a n c] 24)).alloc (.cells (valC zeroVal) 28))
  rw [← hW, ← hB]
  clear hW hB
  go_upto_region 2 with (go_at_call 20; refine hbo.mono ?_; rintro _ w3 ⟨nv, rfl, hk3, _, _, _⟩)
  have bZ := blk_kept HX.out.2.2 hk3 (fun f => f)
  have hal := Keeps.alloc None w3 (.cells #[.int .i64 v0, .int .i64 v1, .int .i64 v2, .int .i64 v3, .int .i64 v4] 28)
  have bV := heap_alloc_new w3 (.cells #[.int .i64 v0, .int .i64 v1, .int .i64 v2, .int .i64 v3, .int .i64 v4] 28)
  obtain ⟨V, hV⟩ : ∃ V, V = w3.alloc (.cells #[.int .i64 v0, .int .i64 v1, .int .i64 v2, .int .i64 v3, .int .i64 v4] 28) := ⟨_, rfl⟩
  obtain ⟨G, hG⟩ : ∃ G, G = w3.heap.size := ⟨_, rfl⟩
  rw [← hV] at hal bV
  rw [← hG] at bV
  rw [← hV, ← hG]
  have bZ2 := blk_kept bZ hal (fun f => f)
  have nG : G ≠ B + 1 := by rw [hG]; have := blk_lt bZ; omega
  have x0 : V.cell? ⟨G, 0, none⟩ = some (.int .i64 v0) := (blk_cell bV 0).trans rfl
  have x1 : V.cell? ⟨G, 1, none⟩ = some (.int .i64 v1) := (blk_cell bV 1).trans rfl
  have x2 : V.cell? ⟨G, 2, none⟩ = some (.int .i64 v2) := (blk_cell bV 2).trans rfl
  have x3 : V.cell? ⟨G, 3, none⟩ = some (.int .i64 v3) := (blk_cell bV 3).trans rfl
  have x4 : V.cell? ⟨G, 4, none⟩ = some (.int .i64 v4) := (blk_cell bV 4).trans rfl
  unfold valC zeroVal at bZ2
  have y0 : V.cell? ⟨B + 1, 0, none⟩ = some (.int .i64 0) := (blk_cell bZ2 0).trans rfl
  have y1 : V.cell? ⟨B + 1, 1, none⟩ = some (.int .i64 0) := (blk_cell bZ2 1).trans rfl
  have y2 : V.cell? ⟨B + 1, 2, none⟩ = some (.int .i64 0) := (blk_cell bZ2 2).trans rfl
  have y3 : V.cell? ⟨B + 1, 3, none⟩ = some (.int .i64 0) := (blk_cell bZ2 3).trans rfl
  have y4 : V.cell? ⟨B + 1, 4, none⟩ = some (.int .i64 0) := (blk_cell bZ2 4).trans rfl
  have z0 := blk_free bZ2 0
  have z1 := blk_free bZ2 1
  have z2 := blk_free bZ2 2
  have z3 := blk_free bZ2 3
  have z4 := blk_free bZ2 4
  obtain ⟨w7, hw7⟩ : ∃ w7, w7 = (((((V.setCell ⟨B + 1, 0, none⟩ (.int .i64 v0)).setCell ⟨B + 1, 1, none⟩ (.int .i64 v1)).setCell ⟨B + 1, 2, none⟩ (.int .i64 v2)).setCell ⟨B + 1, 3, none⟩ (.int .i64 v3)).setCell ⟨B + 1, 4, none⟩ (.int .i64 v4)) := ⟨_, rfl⟩
  have bV7 : w7.heap[B + 1]? = some (.cells (valC ⟨v0, v1, v2, v3, v4⟩) 28 (0, 0)) := by
    rw [hw7, blk_set (blk_set (blk_set (blk_set (blk_set bZ2 _) _) _) _) _]
    rfl
  have k7 : Keeps (· = B + 1) V w7 := by
    rw [hw7]
    exact (((((Keeps.refl (· = B + 1) V).andSet (x := ⟨B + 1, 0, none⟩) (.inl rfl) _).andSet (x := ⟨B + 1, 1, none⟩) (.inl rfl) _).andSet (x := ⟨B + 1, 2, none⟩) (.inl rfl) _).andSet (x := ⟨B + 1, 3, none⟩) (.inl rfl) _).andSet (x := ⟨B + 1, 4, none⟩) (.inl rfl) _
  have HQ : Hid (w7.heap[B + 1]? = some (.cells (valC ⟨v0, v1, v2, v3, v4⟩) 28 (0, 0)) ∧ Keeps None w w7) := ⟨bV7, ((HX.out.2.1.trans hk3 (fun _ f _ => f)).trans hal (fun _ f _ => f)).trans k7 (fun i e hi => by have := HX.out.1; omega)⟩
  rw [hw7] at HQ
  clear hw7 bV7 k7 bZ bZ2 bV hal hk3 hbo d0 hV hG
  go_wp2_with fail
  exact bodyPost_ret (results_ct (q := 6) (r := 7) (t := 28) rfl rfl (load_val _ (B + 1) _ HQ.out.1)) rfl ⟨rfl, HQ.out.2⟩
set_option maxHeartbeats 2000000 in
theorem rtree_any (a : Option Addr) (n c : Nat) (l : List Fn) (aa : Option Addr) (an ac : Nat) (zs : List Int) (fuel : Int) (w : World) (hS : SeenF w a n l) (hok : ∀ f ∈ l, f.Ok) (hZ : SeenA w aa an zs) (hZ2 : an ≤ 9223372036854775807) (hfu : okI fuel) :
    Calls Tryd.prog 11 #[.agg #[.slice a n c], .slice aa an ac, .int .i64 fuel] w (TreePost l zs fuel w) := by
  obtain ⟨B, hB⟩ : ∃ B, B = w.heap.size := ⟨_, rfl⟩
  have b1 := heap_alloc_new w (.cells #[.slice a n c] 24)
  have hk1 := Keeps.alloc None w (.cells #[.slice a n c] 24)
  obtain ⟨W, hW⟩ : ∃ W, W = w.alloc (.cells #[.slice a n c] 24) := ⟨_, rfl⟩
  rw [← hW, ← hB] at b1
  rw [← hW] at hk1
  have hbo := rboth_any a n c l aa an ac zs fuel W (hS.more hk1) hok (hZ.more hk1) hZ2 hfu
  have d0 : W.cell? ⟨B, 0, none⟩ = some (.slice a n c) := (blk_cell b1 0).trans rfl
  have HX : Hid (B = w.heap.size ∧ Keeps None w W) := ⟨hB, hk1⟩
  unfold BothPost at hbo
  unfold TreePost
  obtain ⟨⟨v0, v1, v2, v3, v4⟩, hev⟩ : ∃ ev, ev = (evalV l zs fuel).1 := ⟨_, rfl⟩
  rw [← hev] at hbo
  generalize (evalV l zs fuel).2 = er at *
  generalize treeV l zs fuel = tv at *
  unfold valC at hbo
  clear hS hok hZ b1 hk1 hev
  go_enter Tryd.func11, Tryd.ntmps11
  go_upto_region 1 with fail
  rw [← hW, ← hB]
  clear hW hB
  go_upto_region 2 with (go_at_call 20; refine hbo.mono ?_; rintro _ w3 ⟨nv, rfl, hk3, h1, h2, h3⟩)
  have hal := Keeps.alloc None w3 (.cells #[.int .i64 v0, .int .i64 v1, .int .i64 v2, .int .i64 v3, .int .i64 v4] 28)
  have HQ : Hid (∃ nv', Ending.returned (.tuple #[nv, .int .i64 er]) = .returned (.tuple #[nv', .int .i64 er]) ∧ Keeps None w (w3.alloc (.cells #[.int .i64 v0, .int .i64 v1, .int .i64 v2, .int .i64 v3, .int .i64 v4] 28)) ∧ (∀ g, nv'.ownBlock = some g → w.heap.size ≤ g) ∧ (er ≠ 0 → nv' = .slice none 0 0) ∧ (er = 0 → (w3.alloc (.cells #[.int .i64 v0, .int .i64 v1, .int .i64 v2, .int .i64 v3, .int .i64 v4] 28)).ownsRow 0 41 7 nv' tv.length (ndVals tv))) :=
    ⟨nv, rfl, (HX.out.2.trans hk3 (fun _ f _ => f)).trans hal (fun _ f _ => f), fun g e => Nat.le_trans HX.out.2.size (h1 g e), h2, fun h => hal.own (h3 h) (fun _ _ f => f)⟩
  clear hal hk3 h1 h2 h3 hbo d0
  go_wp2_with fail
  go_ret2
  exact HQ.out
end Go.Proofs.YthignlailbekmaaDoor
/-! SerialEval. -/
namespace Go.Proofs.YthignlailbekmaaDoor
set_option linter.unusedVariables false
set_option maxRecDepth 20000
open Go.RowKit Go.HeapKit Go.PlainOps

theorem words_copied_nil (g c : Nat) (w : World) (ty : TypeId) : (Builtin.append_ #[25, 25] ty #[.slice (some ⟨g, 0, none⟩) 0 0, .slice none 0 c]).run Tryd.prog w = .ok (.slice (some ⟨g, 0, none⟩) 0 0) w := by
  obtain ⟨i0, hi, hz0, hz1, hz2⟩ := info_parts Tryd.infoI64
  simp [Builtin.append_, run_underlying Tryd.underlying25, sizeOf, typeInfo, zeroValue, hi, hz0, Builtin.lenOf, Builtin.firstCells, storeCells]
/-- 'append([]int64{}, l...)'. -/
theorem words_copied (ca : Option Addr) (n c : Nat) (zs : List Int) (w : World) (ty : TypeId) (h : SeenA w ca n zs) (hs : n * 8 ≤ 140737488351232) :
    ∃ v w', (Builtin.append_ #[25, 25] ty #[.slice (some ⟨w.heap.size, 0, none⟩) 0 0, .slice ca n c]).run Tryd.prog (w.alloc (.cells #[] 2)) = .ok v w' ∧
      w'.ownsRow 0 2 1 v n (ints zs) ∧ Keeps None w w' ∧ ∀ g, v.ownBlock = some g → w.heap.size ≤ g := by
  have hl := h.len
  have hal := Keeps.alloc None w (.cells #[] 2)
  have h2 := h.more hal
  have hrow : (w.alloc (.cells #[] 2)).ownsRow 0 2 1 (.slice (some ⟨w.heap.size, 0, none⟩) 0 0) 0 [] :=
    ⟨by simp, .inr ⟨w.heap.size, 0, #[], rfl, Nat.zero_le _, heap_alloc_new _ _, Nat.le_refl _, by unfold maxLen; omega, rfl, rfl⟩⟩
  cases ca with
  | none =>
    have hn : n = 0 := by
      rcases Nat.eq_zero_or_pos n with h0 | h0
      · exact h0
      · obtain ⟨b, off, e, _⟩ := h.ex h0
        cases e
    subst hn
    have hc0 : zs = [] := List.eq_nil_of_length_eq_zero hl.symm
    subst hc0
    exact ⟨.slice (some ⟨w.heap.size, 0, none⟩) 0 0, w.alloc (.cells #[] 2), words_copied_nil _ c _ ty, hrow, hal, fun g e => by simp [Value.ownBlock] at e; omega⟩
  | some x =>
    obtain ⟨i0, hi, hz0, hz1, hz2⟩ := info_parts Tryd.infoI64
    obtain ⟨v', w1, hr, ho, hgr, hm, -⟩ := run_append_moved (P := Tryd.prog) (w.alloc (.cells #[] 2)) 0 25 ty 2 i0 _ 1 8 Tryd.underlying25 hi hz0 hz1 hz2 rfl (by decide) _ 0 _ hrow
      x n c (ints zs) (by rw [ints_len]; omega) (by
        intro j u hu
        have hj : j < n := by have := (List.getElem?_eq_some_iff.1 hu).1; rw [ints_len] at this; omega
        obtain ⟨b, off, e, _, hc⟩ := h2.ex (by omega)
        injection e with e
        subst e
        rw [show (⟨b, off, none⟩ : Addr).add j = ⟨b, off + j, none⟩ by unfold Addr.add; split <;> simp_all]
        have hlj : zs[j]? = some (zs[j]'(by omega)) := List.getElem?_eq_getElem _
        rw [hc j _ hlj]
        rw [ints_at zs j _ hlj] at hu
        exact hu) (by
        intro u hu
        simp [ints] at hu
        obtain ⟨y, _, rfl⟩ := hu
        rfl) (by unfold maxLen; omega) (by omega) (Nat.zero_le _)
    rw [Nat.zero_add, List.nil_append] at ho
    refine ⟨v', w1, hr, ho, hal.andGrown hgr (fun k e => .inr (by simp [Value.ownBlock] at e; omega)), fun g e => ?_⟩
    rcases hm with hm | ⟨g', e', hg'⟩
    · rw [hm] at e; simp [Value.ownBlock] at e; omega
    · rw [e'] at e
      obtain rfl := Option.some.inj e
      simp at hg'
      omega
theorem rowA {w : World} {av : Value} {n : Nat} {l : List Int} (hn : n = l.length) (h : w.ownsRow 0 2 1 av n (ints l)) (hl : n ≤ 9223372036854775807) (hok : ∀ x ∈ l, okI x) : ∃ a c, av = .slice a n c ∧ SeenA w a n l := by
  rcases h.2 with ⟨rfl, h0⟩ | ⟨g, cap, cur, rfl, hb0, hg, hnc, hcm, hcs, htk⟩
  · refine ⟨none, 0, by rw [h0], ⟨hn, by omega, hok, fun h => by omega⟩⟩
  · refine ⟨some ⟨g, 0, none⟩, cap, rfl, ⟨hn, by omega, hok, fun _ => ⟨g, 0, rfl, blk_lt hg, fun k x hx => ?_⟩⟩⟩
    have h1 := ints_at l k x hx
    rw [← htk, List.getElem?_take] at h1
    rw [Nat.zero_add, blk_cell hg, ← Array.getElem?_toList]
    split at h1
    · exact h1
    · cases h1
set_option maxHeartbeats 4000000 in
theorem serialEval_walk (a : Option Addr) (n c : Nat) (l : List Fn) (aa : Option Addr) (an ac : Nat) (zs : List Int) (fuel : Int) (w : World) (hT : Tabs w) (hS : SeenF w a n l) (hok : ∀ f ∈ l, f.Ok) (hr : n * 48 ≤ 140737488351232 ∧ ∀ f ∈ l, f.code.length * 40 ≤ 140737488351232) (hZ : SeenA w aa an zs) (hrz : an * 8 ≤ 140737488351232) (hfu : okI fuel) :
    Calls Tryd.prog 3 #[.agg #[.slice a n c], .slice aa an ac, .int .i64 fuel] w fun e w' => e = .returned (.bool true) ∧ Keeps None w w' := by
  have b1 := heap_alloc_new w (.cells #[.slice a n c] 24)
  have hk1 := Keeps.alloc None w (.cells #[.slice a n c] 24)
  obtain ⟨W, hW⟩ : ∃ W, W = w.alloc (.cells #[.slice a n c] 24) := ⟨_, rfl⟩
  obtain ⟨B, hB⟩ : ∃ B, B = w.heap.size := ⟨_, rfl⟩
  rw [← hW, ← hB] at b1
  rw [← hW] at hk1
  have d0 : W.cell? ⟨B, 0, none⟩ = some (.slice a n c) := (blk_cell b1 0).trans rfl
  have han : (an : Int) ≤ 4611686018427387904 := by omega
  have HC : Hid (Tabs W ∧ SeenF W a n l ∧ (∀ f ∈ l, f.Ok) ∧ (n * 48 ≤ 140737488351232 ∧ ∀ f ∈ l, f.code.length * 40 ≤ 140737488351232) ∧ SeenA W aa an zs ∧ Keeps None w W ∧ W.heap[B]? = some (.cells #[.slice a n c] 24 (0, 0)) ∧ an * 8 ≤ 140737488351232) := ⟨hT.more hk1, hS.more hk1, hok, hr, hZ.more hk1, hk1, b1, hrz⟩
  have hcp := copied_any a n c l W (hS.more hk1) hr.1 hr.2
  unfold CopiedPost at hcp
  have hev := fun wx (hx : Keeps None W wx) => eval_any a n c l aa an ac zs fuel wx (HC.out.1.more hx) (HC.out.2.1.more hx) hok (HC.out.2.2.2.2.1.more hx) (by omega) hfu
  obtain ⟨⟨v0, v1, v2, v3, v4⟩, hvv⟩ : ∃ ev, ev = (evalV l zs fuel).1 := ⟨_, rfl⟩
  have hrev := fun a' c' a2 c2 wx (h1 : SeenF wx a' n l) (h2 : SeenA wx a2 an zs) => reval_any a' n c' l a2 an c2 zs fuel wx h1 hok h2 (by omega) hfu
  rw [← hvv] at hev hrev
  generalize (evalV l zs fuel).2 = er at *
  unfold valC at hev hrev
  have HEV : Hid _ := hev
  have HRV : Hid _ := hrev
  have hne := neqVal6 v0 v1 v2 v3 v4
  have heq := eqVal6 v0 v1 v2 v3 v4
  clear hT hS hok hr hZ hrz hk1 b1 hev hrev hvv
  go_enter Tryd.func3, Tryd.ntmps3
  go_upto_region 1 with fail
  rw [← hW, ← hB]
  clear hW hB
  go_upto_region 2 with (go_at_call 5; refine hcp.mono ?_; rintro _ w2 ⟨qa, qc, rfl, hq2, hk2⟩)
  have hal := Keeps.alloc None w2 (.cells #[.slice qa n qc] 24)
  have b2 := heap_alloc_new w2 (.cells #[.slice qa n qc] 24)
  obtain ⟨V, hV⟩ : ∃ V, V = w2.alloc (.cells #[.slice qa n qc] 24) := ⟨_, rfl⟩
  obtain ⟨Q, hQ⟩ : ∃ Q, Q = w2.heap.size := ⟨_, rfl⟩
  rw [← hV] at hal b2
  rw [← hQ] at b2
  rw [← hV, ← hQ]
  have kV := hk2.trans hal (fun _ f _ => f)
  have hqV := hq2.more hal
  obtain ⟨bv, w3, hr3, ho3, hk3, hl3⟩ := words_copied aa an ac zs V 25 (HC.out.2.2.2.2.1.more kV) HC.out.2.2.2.2.2.2.2
  obtain ⟨ba, bc, hbv, hb3⟩ := rowA HC.out.2.2.2.2.1.len ho3 (by have := HC.out.2.2.2.2.2.2.2; omega) HC.out.2.2.2.2.1.ok
  subst hbv
  have k3 := kV.trans hk3 (fun _ f _ => f)
  have H3 : Hid (Keeps None W w3 ∧ SeenF w3 qa n l ∧ SeenA w3 ba an zs ∧ w3.heap[Q]? = some (.cells #[.slice qa n qc] 24 (0, 0))) := ⟨k3, hqV.more hk3, hb3, blk_kept b2 hk3 (fun f => f)⟩
  clear hV hQ hal b2 kV hqV hk2 hq2 hcp ho3 hk3 hl3 hb3
  go_upto_region 3 with (at_builtin; refine wpList_append_run rfl (.tmp 17) (.tmp 18) 25 25 rfl rfl rfl hr3 ?_)
  have d3 := k3.cell d0 (fun f => f)
  clear k3 hr3 d0
  go_upto_region 4 with (go_at_call 6; refine (HEV.out _ H3.out.1).mono ?_; rintro _ w4 ⟨rfl, hk4⟩)
  have k5 := hk4.andAlloc (.cells #[.int .i64 v0, .int .i64 v1, .int .i64 v2, .int .i64 v3, .int .i64 v4] 28)
  have bV := heap_alloc_new w4 (.cells #[.int .i64 v0, .int .i64 v1, .int .i64 v2, .int .i64 v3, .int .i64 v4] 28)
  obtain ⟨w5, hw5⟩ : ∃ w5, w5 = w4.alloc (.cells #[.int .i64 v0, .int .i64 v1, .int .i64 v2, .int .i64 v3, .int .i64 v4] 28) := ⟨_, rfl⟩
  obtain ⟨G, hG⟩ : ∃ G, G = w4.heap.size := ⟨_, rfl⟩
  rw [← hw5] at k5 bV
  rw [← hG] at bV
  rw [← hw5, ← hG]
  have H5 : Hid (Keeps None W w5 ∧ SeenF w5 qa n l ∧ SeenA w5 ba an zs ∧ w5.heap[Q]? = some (.cells #[.slice qa n qc] 24 (0, 0)) ∧ w5.heap[G]? = some (.cells #[.int .i64 v0, .int .i64 v1, .int .i64 v2, .int .i64 v3, .int .i64 v4] 28 (0, 0))) := ⟨H3.out.1.trans k5 (fun _ f _ => f), H3.out.2.1.more k5, H3.out.2.2.1.more k5, blk_kept H3.out.2.2.2 k5 (fun f => f), bV⟩
  have d5 := k5.cell d3 (fun f => f)
  have q5 : w5.cell? ⟨Q, 0, none⟩ = some (.slice qa n qc) := (blk_cell H5.out.2.2.2.1 0).trans rfl
  clear hw5 hG k5 bV hk4 d3 H3
  have hrv := HRV.out qa qc ba bc w5 H5.out.2.1 H5.out.2.2.1
  go_upto_region 5 with (go_at_call 7; refine hrv.mono ?_; rintro _ w6 ⟨rfl, hk6⟩)
  have k7 := hk6.andAlloc (.cells #[.int .i64 v0, .int .i64 v1, .int .i64 v2, .int .i64 v3, .int .i64 v4] 28)
  have bV7 := heap_alloc_new w6 (.cells #[.int .i64 v0, .int .i64 v1, .int .i64 v2, .int .i64 v3, .int .i64 v4] 28)
  obtain ⟨w7, hw7⟩ : ∃ w7, w7 = w6.alloc (.cells #[.int .i64 v0, .int .i64 v1, .int .i64 v2, .int .i64 v3, .int .i64 v4] 28) := ⟨_, rfl⟩
  obtain ⟨G2, hG2⟩ : ∃ G2, G2 = w6.heap.size := ⟨_, rfl⟩
  rw [← hw7] at k7 bV7
  rw [← hG2] at bV7
  rw [← hw7, ← hG2]
  have H7 : Hid (Keeps None W w7 ∧ SeenF w7 qa n l ∧ SeenA w7 ba an zs ∧ w7.heap[Q]? = some (.cells #[.slice qa n qc] 24 (0, 0)) ∧ w7.heap[G]? = some (.cells #[.int .i64 v0, .int .i64 v1, .int .i64 v2, .int .i64 v3, .int .i64 v4] 28 (0, 0)) ∧ w7.heap[G2]? = some (.cells #[.int .i64 v0, .int .i64 v1, .int .i64 v2, .int .i64 v3, .int .i64 v4] 28 (0, 0))) := ⟨H5.out.1.trans k7 (fun _ f _ => f), H5.out.2.1.more k7, H5.out.2.2.1.more k7, blk_kept H5.out.2.2.2.1 k7 (fun f => f), blk_kept H5.out.2.2.2.2 k7 (fun f => f), bV7⟩
  have d7 := k7.cell d5 (fun f => f)
  have q7 := k7.cell q5 (fun f => f)
  have g0 : w7.cell? ⟨G, 0, none⟩ = some (.int .i64 v0) := (blk_cell H7.out.2.2.2.2.1 0).trans rfl
  have g1 : w7.cell? ⟨G, 1, none⟩ = some (.int .i64 v1) := (blk_cell H7.out.2.2.2.2.1 1).trans rfl
  have g2 : w7.cell? ⟨G, 2, none⟩ = some (.int .i64 v2) := (blk_cell H7.out.2.2.2.2.1 2).trans rfl
  have g3 : w7.cell? ⟨G, 3, none⟩ = some (.int .i64 v3) := (blk_cell H7.out.2.2.2.2.1 3).trans rfl
  have g4 : w7.cell? ⟨G, 4, none⟩ = some (.int .i64 v4) := (blk_cell H7.out.2.2.2.2.1 4).trans rfl
  have p0 : w7.cell? ⟨G2, 0, none⟩ = some (.int .i64 v0) := (blk_cell H7.out.2.2.2.2.2 0).trans rfl
  have p1 : w7.cell? ⟨G2, 1, none⟩ = some (.int .i64 v1) := (blk_cell H7.out.2.2.2.2.2 1).trans rfl
  have p2 : w7.cell? ⟨G2, 2, none⟩ = some (.int .i64 v2) := (blk_cell H7.out.2.2.2.2.2 2).trans rfl
  have p3 : w7.cell? ⟨G2, 3, none⟩ = some (.int .i64 v3) := (blk_cell H7.out.2.2.2.2.2 3).trans rfl
  have p4 : w7.cell? ⟨G2, 4, none⟩ = some (.int .i64 v4) := (blk_cell H7.out.2.2.2.2.2 4).trans rfl
  have hsm := same6_any a n c qa qc l w7 (HC.out.2.1.more H7.out.1) H7.out.2.1 HC.out.2.2.2.1.1 HC.out.2.2.2.1.2
  have hsi := fun wx (hx : Keeps None w7 wx) => sameInts_any aa an ac ba bc zs wx ((HC.out.2.2.2.2.1.more H7.out.1).more hx) (H7.out.2.2.1.more hx) han
  have HSI : Hid _ := hsi
  clear hw7 hG2 k7 bV7 hk6 d5 q5 H5 hrv hsi
  go_upto_region 7 with (first | (go_at_call 8; refine hsm.mono ?_; rintro _ w8 ⟨rfl, hk8⟩) | (go_at_call 9; refine (HSI.out _ hk8).mono ?_; rintro _ w9 ⟨rfl, hk9⟩))
  have k9 := hk8.trans hk9 (fun _ f _ => f)
  have d9 := k9.cell d7 (fun f => f)
  have H9 : Hid (Keeps None W w9 ∧ w9.heap[G2]? = some (.cells #[.int .i64 v0, .int .i64 v1, .int .i64 v2, .int .i64 v3, .int .i64 v4] 28 (0, 0))) := ⟨H7.out.1.trans k9 (fun _ f _ => f), blk_kept H7.out.2.2.2.2.2 k9 (fun f => f)⟩
  have hev9 := HEV.out w9 H9.out.1
  clear k9 hk8 hk9 hsm d7 q7 g0 g1 g2 g3 g4 p0 p1 p2 p3 p4 H7 HSI
  go_upto_region 8 with (go_at_call 6; refine hev9.mono ?_; rintro _ w10 ⟨rfl, hk10⟩)
  have k11 := hk10.andAlloc (.cells #[.int .i64 v0, .int .i64 v1, .int .i64 v2, .int .i64 v3, .int .i64 v4] 28)
  have bV11 := heap_alloc_new w10 (.cells #[.int .i64 v0, .int .i64 v1, .int .i64 v2, .int .i64 v3, .int .i64 v4] 28)
  obtain ⟨w11, hw11⟩ : ∃ w11, w11 = w10.alloc (.cells #[.int .i64 v0, .int .i64 v1, .int .i64 v2, .int .i64 v3, .int .i64 v4] 28) := ⟨_, rfl⟩
  obtain ⟨G3, hG3⟩ : ∃ G3, G3 = w10.heap.size := ⟨_, rfl⟩
  rw [← hw11] at k11 bV11
  rw [← hG3] at bV11
  rw [← hw11, ← hG3]
  have bp := blk_kept H9.out.2 k11 (fun f => f)
  have g0 : w11.cell? ⟨G3, 0, none⟩ = some (.int .i64 v0) := (blk_cell bV11 0).trans rfl
  have g1 : w11.cell? ⟨G3, 1, none⟩ = some (.int .i64 v1) := (blk_cell bV11 1).trans rfl
  have g2 : w11.cell? ⟨G3, 2, none⟩ = some (.int .i64 v2) := (blk_cell bV11 2).trans rfl
  have g3 : w11.cell? ⟨G3, 3, none⟩ = some (.int .i64 v3) := (blk_cell bV11 3).trans rfl
  have g4 : w11.cell? ⟨G3, 4, none⟩ = some (.int .i64 v4) := (blk_cell bV11 4).trans rfl
  have p0 : w11.cell? ⟨G2, 0, none⟩ = some (.int .i64 v0) := (blk_cell bp 0).trans rfl
  have p1 : w11.cell? ⟨G2, 1, none⟩ = some (.int .i64 v1) := (blk_cell bp 1).trans rfl
  have p2 : w11.cell? ⟨G2, 2, none⟩ = some (.int .i64 v2) := (blk_cell bp 2).trans rfl
  have p3 : w11.cell? ⟨G2, 3, none⟩ = some (.int .i64 v3) := (blk_cell bp 3).trans rfl
  have p4 : w11.cell? ⟨G2, 4, none⟩ = some (.int .i64 v4) := (blk_cell bp 4).trans rfl
  have HK : Hid (Keeps None w w11) := (HC.out.2.2.2.2.2.1.trans H9.out.1 (fun _ f _ => f)).trans k11 (fun _ f _ => f)
  clear hw11 hG3 k11 bV11 hk10 bp hev9 d9
  go_wp2_with fail
  go_ret
  exact ⟨rfl, HK.out⟩
end Go.Proofs.YthignlailbekmaaDoor
/-! SerialTree: what its walk keeps. -/
namespace Go.Proofs.YthignlailbekmaaDoor
set_option linter.unusedVariables false
set_option maxRecDepth 20000
open Go.RowKit Go.HeapKit Go.PlainOps

/-- The nodes that Tree hands out, of any question. -/
def treeL (l : List Fn) (zs : List Int) (fuel : Int) : List Nd := if (evalV l zs fuel).2 = 0 then treeV l zs fuel else []
def TP (L : List Nd) (N : Nat) (er : Int) (w : World) (e : Ending) (w' : World) : Prop :=
  ∃ a c, e = .returned (.tuple #[.slice a N c, .int .i64 er]) ∧ Keeps None w w' ∧ (∀ g, (Value.slice a N c).ownBlock = some g → w.heap.size ≤ g) ∧ w'.ownsRow 0 41 7 (.slice a N c) N (ndVals L) ∧ SeenD w' a N L
theorem TreePost.all {l : List Fn} {zs : List Int} {fuel : Int} {w w' : World} {e : Ending} (h : TreePost l zs fuel w e w') : TP (treeL l zs fuel) (treeL l zs fuel).length (evalV l zs fuel).2 w e w' := by
  obtain ⟨nv, he, hk, hn, h1, h2⟩ := h
  have ho : w'.ownsRow 0 41 7 nv (treeL l zs fuel).length (ndVals (treeL l zs fuel)) := by
    unfold treeL
    split
    · rename_i h0; exact h2 h0
    · rename_i h0; rw [h1 h0]; exact ⟨rfl, .inl ⟨rfl, rfl⟩⟩
  obtain ⟨a, c, rfl, hs⟩ := row_seenD ho
  exact ⟨a, c, he, hk, hn, ho, hs⟩
theorem tree_all (a : Option Addr) (n c : Nat) (l : List Fn) (aa : Option Addr) (an ac : Nat) (zs : List Int) (fuel : Int) (w : World) (hT : Tabs w) (hS : SeenF w a n l) (hok : ∀ f ∈ l, f.Ok) (hZ : SeenA w aa an zs) (hZ2 : an ≤ 9223372036854775807) (hfu : okI fuel) :
    Calls Tryd.prog 10 #[.agg #[.slice a n c], .slice aa an ac, .int .i64 fuel] w (TP (treeL l zs fuel) (treeL l zs fuel).length (evalV l zs fuel).2 w) :=
  (tree_any a n c l aa an ac zs fuel w hT hS hok hZ hZ2 hfu).mono fun _ _ h => h.all
theorem rtree_all (a : Option Addr) (n c : Nat) (l : List Fn) (aa : Option Addr) (an ac : Nat) (zs : List Int) (fuel : Int) (w : World) (hS : SeenF w a n l) (hok : ∀ f ∈ l, f.Ok) (hZ : SeenA w aa an zs) (hZ2 : an ≤ 9223372036854775807) (hfu : okI fuel) :
    Calls Tryd.prog 11 #[.agg #[.slice a n c], .slice aa an ac, .int .i64 fuel] w (TP (treeL l zs fuel) (treeL l zs fuel).length (evalV l zs fuel).2 w) :=
  (rtree_any a n c l aa an ac zs fuel w hS hok hZ hZ2 hfu).mono fun _ _ h => h.all
/-- The program and the arguments that the law copied. -/
structure Al (W wr : World) (Q : Nat) (l : List Fn) (qv : Value) (tq : List At) (bv : Value) (an : Nat) (zs : List Int) : Prop where
  keep : Keeps None W wr
  qlow : W.heap.size ≤ Q
  qb : wr.heap[Q]? = some (.cells #[qv] 24 (0, 0))
  cp : Cp W.heap.size wr l qv tq
  brow : wr.ownsRow 0 2 1 bv an (ints zs)
  blow : ∀ g, bv.ownBlock = some g → W.heap.size ≤ g
theorem Al.more {W wr w' : World} {Q : Nat} {l : List Fn} {qv : Value} {tq : List At} {bv : Value} {an : Nat} {zs : List Int} (h : Al W wr Q l qv tq bv an zs) (hk : Keeps None wr w') : Al W w' Q l qv tq bv an zs :=
  ⟨h.keep.trans hk (fun _ f _ => f), h.qlow, blk_kept h.qb hk (fun f => f), h.cp.more hk, hk.own h.brow (fun _ _ f => f), h.blow⟩
/-- A block of nodes is written. -/
theorem Al.node {W wr w' : World} {Q : Nat} {l : List Fn} {qv : Value} {tq : List At} {bv : Value} {an : Nat} {zs : List Int} {g : Nat} {C : Array Value} (h : Al W wr Q l qv tq bv an zs) (hg : wr.heap[g]? = some (.cells C 41 (0, 0))) (hl : W.heap.size ≤ g) (hk : Keeps (· = g) wr w') : Al W w' Q l qv tq bv an zs := by
  refine ⟨h.keep.trans hk (fun i e hi => by omega), h.qlow, blk_kept h.qb hk (fun e => ?_), h.cp.kept hk (fun g' e q => absurd (own_type h.cp.row e (q ▸ hg)) (by decide)) (fun i t g' ht e q => ?_), hk.own h.brow (fun g' e q => absurd (own_type h.brow e (q ▸ hg)) (by decide)), h.blow⟩
  · have h1 := h.qb
    rw [e, hg] at h1
    injection h1 with h1
    injection h1 with _ h1
    exact absurd h1 (by decide)
  · obtain ⟨f, hf⟩ : ∃ f, l[i]? = some f := ⟨l[i]'(by have := (List.getElem?_eq_some_iff.1 ht).1; have := h.cp.len; omega), by simp⟩
    have hc := h.cp.code i f t hf ht
    exact absurd (own_type hc (by rw [← e]; exact At.blk_slice _ _ _ _) (q ▸ hg)) (by decide)
theorem treeL_most (l : List Fn) (zs : List Int) (fuel : Int) (hok : ∀ f ∈ l, f.Ok) (hz : ∀ x ∈ zs, okI x) : (treeL l zs fuel).length ≤ 8388608 := by
  unfold treeL
  split
  · rename_i he0
    have hr0 : refusedV l zs fuel = 0 := by
      by_cases h : refusedV l zs fuel = 0
      · exact h
      · unfold evalV at he0
        rw [if_pos h] at he0
        exact absurd he0 h
    obtain ⟨hcz, hpz, hf0, hf1⟩ := refused_zero hr0
    have hA := allV_of hcz hok
    obtain ⟨F, rfl⟩ := Int.eq_ofNat_of_zero_le hf0
    have hz8 := root_le hA hpz
    have hBg := root_begins hA true hz F (by omega)
    unfold treeV
    rw [show (F : Int).toNat = F from rfl]
    cases hq : runV l true zs F with
    | gave e => simp
    | done v sp s =>
      obtain ⟨_, _, _, h4, h5, _⟩ := child_done hA hBg rfl hq
      have h1 := h5.nodes
      have h2 := h5.tasks
      simp at h1 ⊢
      omega
  · simp
theorem Al.seenQ {W wr : World} {Q n : Nat} {l : List Fn} {qa : Option Addr} {qc : Nat} {tq : List At} {bv : Value} {an : Nat} {zs : List Int} (h : Al W wr Q l (.slice qa n qc) tq bv an zs) (hn : n = l.length) : SeenF wr qa n l := by
  obtain ⟨a, c, e, hs⟩ := h.cp.seen
  injection e with e1 e2 e3
  rw [e1, hn]
  exact hs
theorem Al.seenB {W wr : World} {Q : Nat} {l : List Fn} {qv : Value} {tq : List At} {ba : Option Addr} {bc an : Nat} {zs : List Int} (h : Al W wr Q l qv tq (.slice ba an bc) an zs) (hn : an = zs.length) (hl : an ≤ 9223372036854775807) (hok : ∀ x ∈ zs, okI x) : SeenA wr ba an zs := by
  obtain ⟨a, c, e, hs⟩ := rowA hn h.brow hl hok
  injection e with e1 e2 e3
  rw [e1]
  exact hs
theorem seenD_of {w : World} {a : Option Addr} {N c : Nat} {L : List Nd} (hN : N = L.length) (h : w.ownsRow 0 41 7 (.slice a N c) N (ndVals L)) : SeenD w a N L := by
  subst hN
  obtain ⟨a', c', e, hs⟩ := row_seenD h
  injection e with e1 e2 e3
  rw [e1]
  exact hs
theorem rowA_more {w : World} {b c an : Nat} {zs : List Int} {x : Int} (h : w.ownsRow 0 2 1 (.slice (some ⟨b, 0, none⟩) (an + 1) c) (an + 1) (ints (zs ++ [x]))) (hn : an = zs.length) (hl : an ≤ 9223372036854775807) (hok : ∀ x ∈ zs, okI x) : SeenA w (some ⟨b, 0, none⟩) an zs ∧ w.cell? ⟨b, an, none⟩ = some (.int .i64 x) := by
  rcases h.2 with ⟨_, h0⟩ | ⟨g, cap, cur, he, hb0, hg, hnc, hcm, hcs, htk⟩
  · omega
  · injection he with e1 e2 e3
    injection e1 with e1
    injection e1 with e1
    subst e1
    have hc : ∀ k y, (zs ++ [x])[k]? = some y → w.cell? ⟨b, k, none⟩ = some (.int .i64 y) := fun k y hy => by
      have h1 := ints_at _ k y hy
      rw [← htk, List.getElem?_take] at h1
      rw [blk_cell hg, ← Array.getElem?_toList]
      split at h1
      · exact h1
      · cases h1
    refine ⟨⟨hn, hl, hok, fun _ => ⟨b, 0, rfl, blk_lt hg, fun k y hy => ?_⟩⟩, hc an x (by rw [hn]; simp)⟩
    rw [Nat.zero_add]
    exact hc k y (by rw [List.getElem?_append_left (List.getElem?_eq_some_iff.1 hy).1]; exact hy)
/-- The two lists of nodes beside them. -/
structure Bl (W wr : World) (Q : Nat) (l : List Fn) (qv : Value) (tq : List At) (bv : Value) (an : Nat) (zs : List Int) (lv mv : Value) (N : Nat) (X Y : List Value) : Prop where
  al : Al W wr Q l qv tq bv an zs
  lrow : wr.ownsRow 0 41 7 lv N X
  mrow : wr.ownsRow 0 41 7 mv N Y
  llow : ∀ g, lv.ownBlock = some g → W.heap.size ≤ g
  dif : ∀ g, lv.ownBlock = some g → ¬ mv.ownBlock = some g
theorem Bl.more {W wr w' : World} {Q : Nat} {l : List Fn} {qv : Value} {tq : List At} {bv : Value} {an : Nat} {zs : List Int} {lv mv : Value} {N : Nat} {X Y : List Value} (h : Bl W wr Q l qv tq bv an zs lv mv N X Y) (hk : Keeps None wr w') : Bl W w' Q l qv tq bv an zs lv mv N X Y :=
  ⟨h.al.more hk, hk.own h.lrow (fun _ _ f => f), hk.own h.mrow (fun _ _ f => f), h.llow, h.dif⟩
/-- And the list that was asked for again. -/
structure C3 (W wr : World) (Q : Nat) (l : List Fn) (qv : Value) (tq : List At) (bv : Value) (an : Nat) (zs : List Int) (lv mv uv : Value) (N : Nat) (X Y : List Value) : Prop where
  bl : Bl W wr Q l qv tq bv an zs lv mv N X Y
  urow : wr.ownsRow 0 41 7 uv N Y
  udif : ∀ g, lv.ownBlock = some g → ¬ uv.ownBlock = some g
theorem C3.more {W wr w' : World} {Q : Nat} {l : List Fn} {qv : Value} {tq : List At} {bv : Value} {an : Nat} {zs : List Int} {lv mv uv : Value} {N : Nat} {X Y : List Value} (h : C3 W wr Q l qv tq bv an zs lv mv uv N X Y) (hk : Keeps None wr w') : C3 W w' Q l qv tq bv an zs lv mv uv N X Y :=
  ⟨h.bl.more hk, hk.own h.urow (fun _ _ f => f), h.udif⟩
theorem word_append (v : Value) (l : List Int) (x : Int) (n g ty : Nat) (w : World) (hn : n = l.length) (h : w.ownsRow 0 2 1 v n (ints l)) (hlen : (n + 1) * 8 ≤ 140737488355328)
    (hg : w.heap[g]? = some (.cells #[.int .i64 x] 2 (0, 0))) :
    ∃ b cap w', (Builtin.append_ #[25, 25] ty #[v, .slice (some ⟨g, 0, none⟩) 1 1]).run Tryd.prog w = .ok (.slice (some ⟨b, 0, none⟩) (n + 1) cap) w' ∧
      w'.ownsRow 0 2 1 (.slice (some ⟨b, 0, none⟩) (n + 1) cap) (n + 1) (ints (l ++ [x])) ∧ Keeps (fun k => v.ownBlock = some k) w w' ∧ (v.ownBlock = some b ∨ w.heap.size ≤ b) ∧ n + 1 ≤ cap := by
  obtain ⟨i0, hi, hz0, hz1, hz2⟩ := info_parts Tryd.infoI64
  obtain ⟨v', w', hr, ho, hgr, hm, -⟩ := run_append_moved (P := Tryd.prog) w 0 25 ty 2 i0 _ 1 8 Tryd.underlying25 hi hz0 hz1 hz2 rfl (by decide) v n (ints l) h
    ⟨g, 0, none⟩ 1 1 [.int .i64 x] rfl (by
      intro j u hu
      rw [show (⟨g, 0, none⟩ : Addr).add j = ⟨g, j, none⟩ by unfold Addr.add; split <;> simp_all, blk_cell hg]
      simpa using hu) (by
      intro u hu
      simp at hu
      subst hu
      rfl) (by unfold maxLen; omega) (by omega) (Nat.zero_le _)
  have e : ints (l ++ [x]) = ints l ++ [.int .i64 x] := by simp [ints]
  rw [e]
  rcases ho.2 with ⟨_, h0⟩ | ⟨b, cap, cur, rfl, hb', hg', hn', _⟩
  · omega
  · refine ⟨b, cap, w', hr, ho, (Keeps.refl _ w).andGrown hgr (fun k e => .inl e), ?_, hn'⟩
    rcases hm with hm | ⟨g', e, hg⟩
    · exact .inl (hm.symm.trans rfl)
    · simp [Value.ownBlock] at e; exact .inr (by omega)
end Go.Proofs.YthignlailbekmaaDoor
/-! SerialTree: what it writes. -/
namespace Go.Proofs.YthignlailbekmaaDoor
set_option linter.unusedVariables false
set_option maxRecDepth 20000
open Go.RowKit Go.HeapKit Go.PlainOps

def mkN (i : Nat) : Nd := ⟨i, 0, 0, 0, 0, 0, -1⟩
theorem own_put {w : World} {e : TypeId} {z n c g : Nat} {X : List Value} {i : Nat} (y : Value) (h : w.ownsRow 0 e z (.slice (some ⟨g, 0, none⟩) n c) n X) : (w.setCell ⟨g, i, none⟩ y).ownsRow 0 e z (.slice (some ⟨g, 0, none⟩) n c) n (X.set i y) := by
  rcases h.2 with ⟨e1, _⟩ | ⟨g', cap, cur, he, hb0, hg, hnc, hcm, hcs, htk⟩
  · cases e1
  · have he2 := he
    injection he with e1 e2 e3
    injection e1 with e1
    injection e1 with e1
    subst e1
    refine ⟨by rw [List.length_set]; exact h.1, .inr ⟨g, cap, _, he2, hb0, blk_set hg _, hnc, hcm, by simpa using hcs, ?_⟩⟩
    rw [Array.toList_setIfInBounds, List.take_set, htk]
theorem nd_put (M : List Nd) (k : Nat) (x : Nd) (hk : k < M.length) :
    ((((((((ndVals M).set (k * 7) (.int .i64 x.parent)).set (k * 7 + 1) (.int .i64 x.idx)).set (k * 7 + 2) (.int .i64 x.func)).set (k * 7 + 3) (.int .i64 x.work)).set (k * 7 + 4) (.int .i64 x.ped)).set (k * 7 + 5) (.int .i64 x.arg)).set (k * 7 + 6) (.int .i64 x.v)) = ndVals (M.set k x) := by
  induction M generalizing k with
  | nil => simp at hk
  | cons z M ih =>
    cases k with
    | zero => rfl
    | succ k =>
      rw [show (k + 1) * 7 = k * 7 + 7 by omega, show k * 7 + 7 + 1 = k * 7 + 1 + 7 by omega, show k * 7 + 7 + 2 = k * 7 + 2 + 7 by omega, show k * 7 + 7 + 3 = k * 7 + 3 + 7 by omega, show k * 7 + 7 + 4 = k * 7 + 4 + 7 by omega, show k * 7 + 7 + 5 = k * 7 + 5 + 7 by omega, show k * 7 + 7 + 6 = k * 7 + 6 + 7 by omega]
      have e2 : ndVals ((z :: M).set (k + 1) x) = ints z.l ++ ndVals (M.set k x) := rfl
      have e1 : ndVals (z :: M) = .int .i64 z.parent :: .int .i64 z.idx :: .int .i64 z.func :: .int .i64 z.work :: .int .i64 z.ped :: .int .i64 z.arg :: .int .i64 z.v :: ndVals M := rfl
      rw [e2, ← ih k (by simpa using hk), e1]
      rfl
def putNd (w : World) (g k : Nat) (x : Nd) : World := ((((((w.setCell ⟨g, k * 7, none⟩ (.int .i64 x.parent)).setCell ⟨g, k * 7 + 1, none⟩ (.int .i64 x.idx)).setCell ⟨g, k * 7 + 2, none⟩ (.int .i64 x.func)).setCell ⟨g, k * 7 + 3, none⟩ (.int .i64 x.work)).setCell ⟨g, k * 7 + 4, none⟩ (.int .i64 x.ped)).setCell ⟨g, k * 7 + 5, none⟩ (.int .i64 x.arg)).setCell ⟨g, k * 7 + 6, none⟩ (.int .i64 x.v)
theorem putNd_keeps (w : World) (g k : Nat) (x : Nd) : Keeps (· = g) w (putNd w g k x) := by
  unfold putNd
  have s : ∀ (w' : World) (i : Nat) (v : Value), Keeps (· = g) w' (w'.setCell ⟨g, i, none⟩ v) := fun w' i v => Keeps.setCell (S := (· = g)) w' (a := ⟨g, i, none⟩) rfl v
  exact ((((((s _ _ _).trans (s _ _ _) (fun _ f _ => f)).trans (s _ _ _) (fun _ f _ => f)).trans (s _ _ _) (fun _ f _ => f)).trans (s _ _ _) (fun _ f _ => f)).trans (s _ _ _) (fun _ f _ => f)).trans (s _ _ _) (fun _ f _ => f)
theorem C3.put {W wr : World} {Q : Nat} {l : List Fn} {qv : Value} {tq : List At} {bv : Value} {an : Nat} {zs : List Int} {la : Option Addr} {lc : Nat} {mv uv : Value} {N : Nat} {M : List Nd} {Y : List Value} (h : C3 W wr Q l qv tq bv an zs (.slice la N lc) mv uv N (ndVals M) Y) (hM : M.length = N) {k : Nat} (hk : k < N) (x : Nd) :
    ∃ g, la = some ⟨g, 0, none⟩ ∧ (∀ j, wr.frozen? ⟨g, j, none⟩ = false) ∧ (∀ y, M[k]? = some y → ∀ j v, y.l[j]? = some v → wr.cell? ⟨g, k * 7 + j, none⟩ = some (.int .i64 v)) ∧ C3 W (putNd wr g k x) Q l qv tq bv an zs (.slice (some ⟨g, 0, none⟩) N lc) mv uv N (ndVals (M.set k x)) Y := by
  rcases h.bl.lrow.2 with ⟨_, h0⟩ | ⟨g, cap, cur, he, hb0, hg, hnc, hcm, hcs, htk⟩
  · omega
  · injection he with e1 e2 e3
    subst e1
    have hP := putNd_keeps wr g k x
    have hne : ∀ (v : Value), (∀ g', (Value.slice (some ⟨g, 0, none⟩) N lc).ownBlock = some g' → ¬ v.ownBlock = some g') → ∀ g', v.ownBlock = some g' → ¬ g' = g := fun v hv g' e q => hv g rfl (by rw [e, q])
    refine ⟨g, rfl, fun j => blk_free hg j, fun y hy j v hv => ?_, ⟨⟨h.bl.al.node hg (h.bl.llow g rfl) hP, ?_, hP.own h.bl.mrow (hne mv h.bl.dif), h.bl.llow, h.bl.dif⟩, hP.own h.urow (hne uv h.udif), h.udif⟩⟩
    · have h1 := ndVals_at M k y hy j v hv
      rw [← htk, List.getElem?_take] at h1
      rw [blk_cell hg, ← Array.getElem?_toList]
      split at h1
      · exact h1
      · cases h1
    · rw [← nd_put M k x (by omega)]
      unfold putNd
      exact own_put _ (own_put _ (own_put _ (own_put _ (own_put _ (own_put _ (own_put _ h.bl.lrow))))))
end Go.Proofs.YthignlailbekmaaDoor
/-! SerialTree: 'append' to a list of nodes; the list itself stays. -/
namespace Go.Proofs.YthignlailbekmaaDoor
set_option linter.unusedVariables false
set_option maxRecDepth 20000
open Go.RowKit Go.HeapKit Go.PlainOps

theorem nodes_more (la : Option Addr) (N lc : Nat) (M : List Nd) (x : Nd) (g0 ty : Nat) (w : World) (hN : N = M.length) (h : w.ownsRow 0 41 7 (.slice la N lc) N (ndVals M)) (hlen : (N + 1) * 56 ≤ 140737488355328)
    (hg0 : w.heap[g0]? = some (.cells #[.int .i64 x.parent, .int .i64 x.idx, .int .i64 x.func, .int .i64 x.work, .int .i64 x.ped, .int .i64 x.arg, .int .i64 x.v] 41 (0, 0))) :
    ∃ b cap w', (Builtin.append_ #[35, 35] ty #[.slice la N lc, .slice (some ⟨g0, 0, none⟩) 1 1]).run Tryd.prog w = .ok (.slice (some ⟨b, 0, none⟩) (N + 1) cap) w' ∧
      SeenD w' (some ⟨b, 0, none⟩) (N + 1) (M ++ [x]) ∧ Keeps (fun k => (Value.slice la N lc).ownBlock = some k) w w' ∧ SeenD w' la N M := by
  obtain ⟨i0, hi, hz0, hz1, hz2⟩ := info_parts Tryd.infoNd
  have hnews : ∀ (j : Nat) (u : Value), (ints x.l)[j]? = some u → w.cell? ((⟨g0, 0, none⟩ : Addr).add j) = some u := by
    intro j u hu
    rw [show (⟨g0, 0, none⟩ : Addr).add j = ⟨g0, j, none⟩ by unfold Addr.add; split <;> simp_all, blk_cell hg0]
    simpa [ints, Nd.l] using hu
  have h1 : ∀ u ∈ ints x.l, u.oneCell' = true := by
    intro u hu
    simp [ints, Nd.l] at hu
    rcases hu with rfl | rfl | rfl | rfl | rfl | rfl | rfl <;> rfl
  obtain ⟨v', w', hr, ho, hgr, hm, -⟩ := run_append_moved (P := Tryd.prog) w 0 35 ty 41 i0 _ 7 56 Tryd.underlying35 hi hz0 hz1 hz2 rfl (by decide) (.slice la N lc) N (ndVals M) h
    ⟨g0, 0, none⟩ 1 1 (ints x.l) rfl hnews h1 (by unfold maxLen; omega) (by omega) (Nat.zero_le _)
  have e : ndVals (M ++ [x]) = ndVals M ++ ints x.l := by simp [ndVals]
  rw [← e] at ho
  have ho2 := ho
  rcases ho2.2 with ⟨_, h0⟩ | ⟨b, cap, cur, rfl, _⟩
  · omega
  · have hsm := seenD_of (by simp [hN]) ho
    refine ⟨b, cap, w', hr, hsm, (Keeps.refl _ w).andGrown hgr (fun k e => .inl e), ?_⟩
    rcases h.2 with ⟨e0, h0⟩ | ⟨g, lc', cur', he, hb0, hg, hnc, hcm, hcs, htk⟩
    · exact ⟨hN, fun h => by omega⟩
    · injection he with e1 e2 e3
      subst e1 e3
      by_cases hroom : N + 1 ≤ lc
      · have hr2 := run_append_room (P := Tryd.prog) w 35 ty 41 i0 Tryd.underlying35 hi g N lc cur' hg ⟨g0, 0, none⟩ 1 1 (ints x.l) (by rw [hz1]; rfl) hnews h1 hroom (by rw [hz1, hcs]; show N * 7 + 7 ≤ lc * 7; omega)
        rw [hr] at hr2
        injection hr2 with q1 q2
        injection q1 with q1 q3 q4
        injection q1 with q1
        injection q1 with q1
        subst q1
        obtain ⟨b', hb', hlt, hc⟩ := hsm.ex (by omega)
        injection hb' with hb'
        injection hb' with hb'
        subst hb'
        refine ⟨hN, fun _ => ⟨b, rfl, hlt, fun k y hy j v hv => hc k y ?_ j v hv⟩⟩
        rw [List.getElem?_append_left (List.getElem?_eq_some_iff.1 hy).1]
        exact hy
      · have holds : ∀ j u, (ndVals M)[j]? = some u → w.cell? ((⟨g, 0, none⟩ : Addr).add j) = some u := h.cells (g := g) rfl
        have hr2 := run_append_grow (P := Tryd.prog) w 35 ty 41 i0 _ Tryd.underlying35 hi hz0 ⟨g, 0, none⟩ N lc (ndVals M) (by rw [hz1]; exact h.1) holds ⟨g0, 0, none⟩ 1 1 (ints x.l) (by rw [hz1]; rfl) hnews (by omega) (by omega) (by rw [hz2]; exact growslice_fits (by omega) (by omega))
        rw [hr] at hr2
        injection hr2 with q1 q2
        rw [q2]
        exact (seenD_of hN h).more ((Keeps.drew None w).trans (Keeps.alloc None _ _) (fun _ f _ => f))
/-- Behind it. -/
structure D4 (W wr : World) (Q : Nat) (l : List Fn) (qv : Value) (tq : List At) (bv : Value) (an : Nat) (zs : List Int) (la ma ua : Option Addr) (b : Nat) (N : Nat) (M L : List Nd) : Prop where
  al : Al W wr Q l qv tq bv an zs
  ls : SeenD wr la N M
  ms : SeenD wr ma N L
  us : SeenD wr ua N L
  more : wr.cell? ⟨b, N * 7, none⟩ = some (.int .i64 (-7))
theorem D4.later {W wr w' : World} {Q : Nat} {l : List Fn} {qv : Value} {tq : List At} {bv : Value} {an : Nat} {zs : List Int} {la ma ua : Option Addr} {b N : Nat} {M L : List Nd} (h : D4 W wr Q l qv tq bv an zs la ma ua b N M L) (hk : Keeps None wr w') : D4 W w' Q l qv tq bv an zs la ma ua b N M L :=
  ⟨h.al.more hk, h.ls.more hk, h.ms.more hk, h.us.more hk, hk.cell h.more (fun f => f)⟩
theorem C3.app {W wr w' : World} {Q : Nat} {l : List Fn} {qv : Value} {tq : List At} {bv : Value} {an : Nat} {zs : List Int} {la ma ua : Option Addr} {lc mc uc N b : Nat} {M L : List Nd} (h : C3 W wr Q l qv tq bv an zs (.slice la N lc) (.slice ma N mc) (.slice ua N uc) N (ndVals M) (ndVals L)) (hL : N = L.length) (hM : N = M.length) {x : Nd} (hx : x.parent = -7)
    (hk : Keeps (fun k => (Value.slice la N lc).ownBlock = some k) wr w') (hs : SeenD w' (some ⟨b, 0, none⟩) (N + 1) (M ++ [x])) (hl : SeenD w' la N M) : D4 W w' Q l qv tq bv an zs la ma ua b N M L := by
  have ha : Al W w' Q l qv tq bv an zs := by
    rcases h.bl.lrow.2 with ⟨e0, h0⟩ | ⟨g, lc', cur', he, hb0, hg, _⟩
    · refine h.bl.al.more ((Keeps.refl None wr).trans hk (fun i e _ => ?_))
      rw [e0] at e
      simp [Value.ownBlock] at e
    · injection he with e1 e2 e3
      subst e1
      refine h.bl.al.node hg (h.bl.llow g rfl) ((Keeps.refl (· = g) wr).trans hk (fun i e _ => ?_))
      simp [Value.ownBlock] at e
      exact e.symm
  refine ⟨ha, hl, seenD_of hL (hk.own h.bl.mrow (fun g e q => h.bl.dif g q e)), seenD_of hL (hk.own h.urow (fun g e q => h.udif g q e)), ?_⟩
  obtain ⟨b', hb', _, hc⟩ := hs.ex (by omega)
  injection hb' with hb'
  injection hb' with hb'
  subst hb'
  have := hc N x (by rw [hM]; simp) 0 x.parent rfl
  rw [hx] at this
  exact this
end Go.Proofs.YthignlailbekmaaDoor
/-! SerialTree: the copies written over. -/
namespace Go.Proofs.YthignlailbekmaaDoor
set_option linter.unusedVariables false
set_option maxRecDepth 20000
open Go.RowKit Go.HeapKit Go.PlainOps

theorem ints_put (zs : List Int) (k : Nat) (y : Int) : (ints zs).set k (.int .i64 y) = ints (zs.set k y) := by
  unfold ints
  rw [List.map_set]
theorem ok_put {zs : List Int} {k : Nat} {y : Int} (h : ∀ x ∈ zs, okI x) (hy : okI y) : ∀ x ∈ zs.set k y, okI x := fun x hx => by
  rcases List.mem_or_eq_of_mem_set hx with h1 | h1
  · exact h x h1
  · rw [h1]; exact hy
/-- One of the arguments is written over. -/
theorem Al.putB {W wr : World} {Q : Nat} {l : List Fn} {qv : Value} {tq : List At} {ba : Option Addr} {bc an : Nat} {zs : List Int} (h : Al W wr Q l qv tq (.slice ba an bc) an zs) (hn : an = zs.length) {k : Nat} {x : Int} (hx : zs[k]? = some x) :
    ∃ g, ba = some ⟨g, 0, none⟩ ∧ wr.frozen? ⟨g, k, none⟩ = false ∧ wr.cell? ⟨g, k, none⟩ = some (.int .i64 x) ∧ ∀ y, Al W (wr.setCell ⟨g, k, none⟩ (.int .i64 y)) Q l qv tq (.slice (some ⟨g, 0, none⟩) an bc) an (zs.set k y) := by
  have hkl := (List.getElem?_eq_some_iff.1 hx).1
  rcases h.brow.2 with ⟨_, h0⟩ | ⟨g, cap, cur, he, hb0, hg, hnc, hcm, hcs, htk⟩
  · omega
  · injection he with e1 e2 e3
    subst e1
    refine ⟨g, rfl, blk_free hg k, ?_, fun y => ?_⟩
    · have h1 := ints_at zs k x hx
      rw [← htk, List.getElem?_take] at h1
      rw [blk_cell hg, ← Array.getElem?_toList]
      split at h1
      · exact h1
      · cases h1
    · have hk : Keeps (· = g) wr (wr.setCell ⟨g, k, none⟩ (.int .i64 y)) := Keeps.setCell (S := (· = g)) wr (a := ⟨g, k, none⟩) rfl _
      have hl := h.blow g rfl
      refine ⟨h.keep.trans hk (fun i e hi => by omega), h.qlow, blk_kept h.qb hk (fun e => ?_), h.cp.kept hk (fun g' e q => absurd (own_type h.cp.row e (q ▸ hg)) (by decide)) (fun i t g' ht e q => ?_), ?_, h.blow⟩
      · have h1 := h.qb
        rw [e, hg] at h1
        injection h1 with h1
        injection h1 with _ h1
        exact absurd h1 (by decide)
      · obtain ⟨f, hf⟩ : ∃ f, l[i]? = some f := ⟨l[i]'(by have := (List.getElem?_eq_some_iff.1 ht).1; have := h.cp.len; omega), by simp⟩
        have hc := h.cp.code i f t hf ht
        exact absurd (own_type hc (by rw [← e]; exact At.blk_slice _ _ _ _) (q ▸ hg)) (by decide)
      · rw [← ints_put]
        exact own_put _ h.brow
/-- One constant of the program is written over. -/
theorem Al.putK {W wr : World} {Q : Nat} {l : List Fn} {qa : Option Addr} {qc n : Nat} {tq : List At} {bv : Value} {an : Nat} {zs : List Int} (h : Al W wr Q l (.slice qa n qc) tq bv an zs) (hn : n = l.length) {i k : Nat} {f : Fn} {x : Ins} (hf : l[i]? = some f) (hx : f.code[k]? = some x) :
    ∃ g cb cc, qa = some ⟨g, 0, none⟩ ∧ wr.cell? ⟨g, i * 4 + 3, none⟩ = some (.slice (some ⟨cb, 0, none⟩) f.code.length cc) ∧ InsAt wr cb (k * 5) x ∧ wr.frozen? ⟨cb, k * 5 + 4, none⟩ = false ∧ cb ≠ Q ∧ cb ≠ g ∧
      ∀ y, Al W (wr.setCell ⟨cb, k * 5 + 4, none⟩ (.int .i64 y)) Q (l.set i { f with code := f.code.set k { x with k := y } }) (.slice qa n qc) tq bv an zs := by
  have hil := (List.getElem?_eq_some_iff.1 hf).1
  obtain ⟨t, ht⟩ : ∃ t, tq[i]? = some t := ⟨tq[i]'(by rw [h.cp.len]; exact hil), by simp⟩
  have four : ∀ r ∈ List.zipWith tfCells l tq, r.length = 4 := fun r hr => by
    obtain ⟨i, hi, rfl⟩ := List.mem_iff_getElem.1 hr
    rw [List.getElem_zipWith]
    rfl
  have hz := zip_at tfCells l tq i f t hf ht
  rcases h.cp.row.2 with ⟨_, h0⟩ | ⟨g, cap, cur, he, hb0, hg, hnc, hcm, hcs, htk⟩
  · omega
  · injection he with e1 e2 e3
    obtain ⟨cb, ht1, hin, hfz, _⟩ := h.cp.put hf hx ht 0
    obtain ⟨C0, hC0⟩ : ∃ C, wr.heap[cb]? = some (.cells C 46 (0, 0)) := own_block (h.cp.code i f t hf ht) (by rw [ht1]; rfl)
    refine ⟨g, cb, t.2, e1, ?_, hin, hfz _, fun e => ?_, fun e => ?_, fun y => ?_⟩
    · have h1 := flat4_at _ four i _ hz 3 (by omega)
      rw [blk_cell hg, ← Array.getElem?_toList]
      have h2 : (List.zipWith tfCells l tq).flatten[i * 4 + 3]? = some (.slice t.1 f.code.length t.2) := h1
      rw [← htk, List.getElem?_take, if_pos (by omega), ht1] at h2
      exact h2
    · have h1 := h.qb
      rw [← e, hC0] at h1
      injection h1 with h1
      injection h1 with _ h1
      exact absurd h1 (by decide)
    · rw [e, hg] at hC0
      injection hC0 with h1
      injection h1 with _ h1
      exact absurd h1 (by decide)
    · obtain ⟨cb', ht1', _, _, hcp, hk, hbl⟩ := h.cp.put hf hx ht y
      have ecb : cb' = cb := by
        rw [ht1] at ht1'
        injection ht1' with q
        injection q with q
        exact q.symm
      subst ecb
      obtain ⟨C, hC⟩ : ∃ C, wr.heap[cb']? = some (.cells C 46 (0, 0)) := own_block (h.cp.code i f t hf ht) (by rw [ht1]; rfl)
      refine ⟨h.keep.trans hk (fun i e hi => by omega), h.qlow, blk_kept h.qb hk (fun e => ?_), hcp, hk.own h.brow (fun g' e q => absurd (own_type h.brow e (q ▸ hC)) (by decide)), h.blow⟩
      have h1 := h.qb
      rw [e, hC] at h1
      injection h1 with h1
      injection h1 with _ h1
      exact absurd h1 (by decide)
theorem putK_ok {l : List Fn} {i k : Nat} {f : Fn} {x : Ins} {y : Int} (h : ∀ f ∈ l, f.Ok) (hf : l[i]? = some f) (hx : f.code[k]? = some x) (hy : okI y) : ∀ f' ∈ l.set i { f with code := f.code.set k { x with k := y } }, f'.Ok := fun f' hf' => by
  have hF := h f (List.mem_of_getElem? hf)
  rcases List.mem_or_eq_of_mem_set hf' with h1 | h1
  · exact h f' h1
  · subst h1
    refine ⟨hF.params, hF.regs, hF.slots, fun x' hx' => ?_⟩
    rcases List.mem_or_eq_of_mem_set hx' with h2 | h2
    · exact hF.code x' h2
    · subst h2
      have hX := hF.code x (List.mem_of_getElem? hx)
      exact ⟨hX.kind, hX.a, hX.b, hX.c, hy⟩
theorem flip_ok (x y : Int) : okI (bits BinOp.xor .i64 x y) := by
  rw [bits_xor]
  exact bvOk _
end Go.Proofs.YthignlailbekmaaDoor
/-! SerialTree: the function's code from a region on. -/
namespace Go.Proofs.YthignlailbekmaaDoor
set_option linter.unusedVariables false
set_option maxRecDepth 20000

def regFirst : Code → Option Nat
  | .region n _ _ => some n
  | .seq a _ => regFirst a
  | _ => none
def tailAt (k : Nat) : Code → Option Code
  | .seq a b => if regFirst a = some k then some (.seq a b) else tailAt k b
  | _ => none
noncomputable def treeTail (k : Nat) : Code := (Tryd.f4.body.bind (tailAt k)).getD .skip
end Go.Proofs.YthignlailbekmaaDoor
