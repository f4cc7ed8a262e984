import Derived.Test.YthignlailbekmaaDoorRdEval
/-! The document's Eval and Tree: the faces. -/
namespace Go.Proofs.YthignlailbekmaaDoor
set_option linter.unusedVariables false
set_option maxRecDepth 20000
set_option linter.unusedSimpArgs false
open Go.RowKit Go.HeapKit Go.PlainOps

theorem results_ct {P : Program} {fn : Func} {q r : Tmp} {t : TypeId} (h : fn.results = #[.cell q t, .tmp r]) {tmps : Array Value} {w : World} {g : Nat} (ha : tmps.getD q undef = .pointer (some ⟨g, 0, none⟩)) {v : Value}
    (hl : (loadVar t ⟨g, 0, none⟩).run P w = .ok v w) : (results fn tmps).run P w = .ok (.tuple #[v, tmps.getD r undef]) w := by
  have ha' : tmps[q]?.getD undef = .pointer (some ⟨g, 0, none⟩) := by simpa using ha
  simp [results, h, ha', asAddr, hl]
set_option maxHeartbeats 2000000 in
theorem reval_any (a : Option Addr) (n c : Nat) (l : List Fn) (aa : Option Addr) (an ac : Nat) (zs : List Int) (fuel : Int) (w : World) (hS : SeenF w a n l) (hok : ∀ f ∈ l, f.Ok) (hZ : SeenA w aa an zs) (hZ2 : an ≤ 9223372036854775807) (hfu : okI fuel) :
    Calls Tryd.prog 7 #[.agg #[.slice a n c], .slice aa an ac, .int .i64 fuel] w fun e w' => e = .returned (.tuple #[.agg (valC (evalV l zs fuel).1), .int .i64 (evalV l zs fuel).2]) ∧ Keeps None w w' := by
  obtain ⟨B, hB⟩ : ∃ B, B = w.heap.size := ⟨_, rfl⟩
  obtain ⟨b1, b2⟩ := two_boxes w #[.slice a n c] (valC zeroVal) 24 28
  have hk2 := keeps2 w (.cells #[.slice a n c] 24) (.cells (valC zeroVal) 28)
  obtain ⟨W, hW⟩ : ∃ W, W = (w.alloc (.cells #[.slice a n c] 24)).alloc (.cells (valC zeroVal) 28) := ⟨_, rfl⟩
  rw [← hW, ← hB] at b1 b2
  rw [← hW] at hk2
  have hbo := rboth_any a n c l aa an ac zs fuel W (hS.more hk2) hok (hZ.more hk2) hZ2 hfu
  have d0 : W.cell? ⟨B, 0, none⟩ = some (.slice a n c) := (blk_cell b1 0).trans rfl
  have HX : Hid (B = w.heap.size ∧ Keeps None w W ∧ W.heap[B + 1]? = some (.cells (valC zeroVal) 28 (0, 0))) := ⟨hB, hk2, b2⟩
  unfold BothPost at hbo
  obtain ⟨⟨v0, v1, v2, v3, v4⟩, hev⟩ : ∃ ev, ev = (evalV l zs fuel).1 := ⟨_, rfl⟩
  rw [← hev] at hbo ⊢
  generalize (evalV l zs fuel).2 = er at *
  generalize treeV l zs fuel = tv at *
  unfold valC at hbo
  clear hS hok hZ b1 b2 hk2 hev
  go_enter Tryd.func7, Tryd.ntmps7
  go_upto_region 1 with fail
  change Code.wp _ _ _ _ ((w.alloc (.cells #[.slice a n c] 24)).alloc (.cells (valC zeroVal) 28))
  rw [← hW, ← hB]
  clear hW hB
  go_upto_region 2 with (go_at_call 20; refine hbo.mono ?_; rintro _ w3 ⟨nv, rfl, hk3, _, _, _⟩)
  have bZ := blk_kept HX.out.2.2 hk3 (fun f => f)
  have hal := Keeps.alloc None w3 (.cells #[.int .i64 v0, .int .i64 v1, .int .i64 v2, .int .i64 v3, .int .i64 v4] 28)
  have bV := heap_alloc_new w3 (.cells #[.int .i64 v0, .int .i64 v1, .int .i64 v2, .int .i64 v3, .int .i64 v4] 28)
  obtain ⟨V, hV⟩ : ∃ V, V = w3.alloc (.cells #[.int .i64 v0, .int .i64 v1, .int .i64 v2, .int .i64 v3, .int .i64 v4] 28) := ⟨_, rfl⟩
  obtain ⟨G, hG⟩ : ∃ G, G = w3.heap.size := ⟨_, rfl⟩
  rw [← hV] at hal bV
  rw [← hG] at bV
  rw [← hV, ← hG]
  have bZ2 := blk_kept bZ hal (fun f => f)
  have nG : G ≠ B + 1 := by rw [hG]; have := blk_lt bZ; omega
  have x0 : V.cell? ⟨G, 0, none⟩ = some (.int .i64 v0) := (blk_cell bV 0).trans rfl
  have x1 : V.cell? ⟨G, 1, none⟩ = some (.int .i64 v1) := (blk_cell bV 1).trans rfl
  have x2 : V.cell? ⟨G, 2, none⟩ = some (.int .i64 v2) := (blk_cell bV 2).trans rfl
  have x3 : V.cell? ⟨G, 3, none⟩ = some (.int .i64 v3) := (blk_cell bV 3).trans rfl
  have x4 : V.cell? ⟨G, 4, none⟩ = some (.int .i64 v4) := (blk_cell bV 4).trans rfl
  unfold valC zeroVal at bZ2
  have y0 : V.cell? ⟨B + 1, 0, none⟩ = some (.int .i64 0) := (blk_cell bZ2 0).trans rfl
  have y1 : V.cell? ⟨B + 1, 1, none⟩ = some (.int .i64 0) := (blk_cell bZ2 1).trans rfl
  have y2 : V.cell? ⟨B + 1, 2, none⟩ = some (.int .i64 0) := (blk_cell bZ2 2).trans rfl
  have y3 : V.cell? ⟨B + 1, 3, none⟩ = some (.int .i64 0) := (blk_cell bZ2 3).trans rfl
  have y4 : V.cell? ⟨B + 1, 4, none⟩ = some (.int .i64 0) := (blk_cell bZ2 4).trans rfl
  have z0 := blk_free bZ2 0
  have z1 := blk_free bZ2 1
  have z2 := blk_free bZ2 2
  have z3 := blk_free bZ2 3
  have z4 := blk_free bZ2 4
  obtain ⟨w7, hw7⟩ : ∃ w7, w7 = (((((V.setCell ⟨B + 1, 0, none⟩ (.int .i64 v0)).setCell ⟨B + 1, 1, none⟩ (.int .i64 v1)).setCell ⟨B + 1, 2, none⟩ (.int .i64 v2)).setCell ⟨B + 1, 3, none⟩ (.int .i64 v3)).setCell ⟨B + 1, 4, none⟩ (.int .i64 v4)) := ⟨_, rfl⟩
  have bV7 : w7.heap[B + 1]? = some (.cells (valC ⟨v0, v1, v2, v3, v4⟩) 28 (0, 0)) := by
    rw [hw7, blk_set (blk_set (blk_set (blk_set (blk_set bZ2 _) _) _) _) _]
    rfl
  have k7 : Keeps (· = B + 1) V w7 := by
    rw [hw7]
    exact (((((Keeps.refl (· = B + 1) V).andSet (x := ⟨B + 1, 0, none⟩) (.inl rfl) _).andSet (x := ⟨B + 1, 1, none⟩) (.inl rfl) _).andSet (x := ⟨B + 1, 2, none⟩) (.inl rfl) _).andSet (x := ⟨B + 1, 3, none⟩) (.inl rfl) _).andSet (x := ⟨B + 1, 4, none⟩) (.inl rfl) _
  have HQ : Hid (w7.heap[B + 1]? = some (.cells (valC ⟨v0, v1, v2, v3, v4⟩) 28 (0, 0)) ∧ Keeps None w w7) := ⟨bV7, ((HX.out.2.1.trans hk3 (fun _ f _ => f)).trans hal (fun _ f _ => f)).trans k7 (fun i e hi => by have := HX.out.1; omega)⟩
  rw [hw7] at HQ
  clear hw7 bV7 k7 bZ bZ2 bV hal hk3 hbo d0 hV hG
  go_wp2_with fail
  exact bodyPost_ret (results_ct (q := 6) (r := 7) (t := 28) rfl rfl (load_val _ (B + 1) _ HQ.out.1)) rfl ⟨rfl, HQ.out.2⟩
set_option maxHeartbeats 2000000 in
theorem rtree_any (a : Option Addr) (n c : Nat) (l : List Fn) (aa : Option Addr) (an ac : Nat) (zs : List Int) (fuel : Int) (w : World) (hS : SeenF w a n l) (hok : ∀ f ∈ l, f.Ok) (hZ : SeenA w aa an zs) (hZ2 : an ≤ 9223372036854775807) (hfu : okI fuel) :
    Calls Tryd.prog 11 #[.agg #[.slice a n c], .slice aa an ac, .int .i64 fuel] w (TreePost l zs fuel w) := by
  obtain ⟨B, hB⟩ : ∃ B, B = w.heap.size := ⟨_, rfl⟩
  have b1 := heap_alloc_new w (.cells #[.slice a n c] 24)
  have hk1 := Keeps.alloc None w (.cells #[.slice a n c] 24)
  obtain ⟨W, hW⟩ : ∃ W, W = w.alloc (.cells #[.slice a n c] 24) := ⟨_, rfl⟩
  rw [← hW, ← hB] at b1
  rw [← hW] at hk1
  have hbo := rboth_any a n c l aa an ac zs fuel W (hS.more hk1) hok (hZ.more hk1) hZ2 hfu
  have d0 : W.cell? ⟨B, 0, none⟩ = some (.slice a n c) := (blk_cell b1 0).trans rfl
  have HX : Hid (B = w.heap.size ∧ Keeps None w W) := ⟨hB, hk1⟩
  unfold BothPost at hbo
  unfold TreePost
  obtain ⟨⟨v0, v1, v2, v3, v4⟩, hev⟩ : ∃ ev, ev = (evalV l zs fuel).1 := ⟨_, rfl⟩
  rw [← hev] at hbo
  generalize (evalV l zs fuel).2 = er at *
  generalize treeV l zs fuel = tv at *
  unfold valC at hbo
  clear hS hok hZ b1 hk1 hev
  go_enter Tryd.func11, Tryd.ntmps11
  go_upto_region 1 with fail
  rw [← hW, ← hB]
  clear hW hB
  go_upto_region 2 with (go_at_call 20; refine hbo.mono ?_; rintro _ w3 ⟨nv, rfl, hk3, h1, h2, h3⟩)
  have hal := Keeps.alloc None w3 (.cells #[.int .i64 v0, .int .i64 v1, .int .i64 v2, .int .i64 v3, .int .i64 v4] 28)
  have HQ : Hid (∃ nv', Ending.returned (.tuple #[nv, .int .i64 er]) = .returned (.tuple #[nv', .int .i64 er]) ∧ Keeps None w (w3.alloc (.cells #[.int .i64 v0, .int .i64 v1, .int .i64 v2, .int .i64 v3, .int .i64 v4] 28)) ∧ (∀ g, nv'.ownBlock = some g → w.heap.size ≤ g) ∧ (er ≠ 0 → nv' = .slice none 0 0) ∧ (er = 0 → (w3.alloc (.cells #[.int .i64 v0, .int .i64 v1, .int .i64 v2, .int .i64 v3, .int .i64 v4] 28)).ownsRow 0 41 7 nv' tv.length (ndVals tv))) :=
    ⟨nv, rfl, (HX.out.2.trans hk3 (fun _ f _ => f)).trans hal (fun _ f _ => f), fun g e => Nat.le_trans HX.out.2.size (h1 g e), h2, fun h => hal.own (h3 h) (fun _ _ f => f)⟩
  clear hal hk3 h1 h2 h3 hbo d0
  go_wp2_with fail
  go_ret2
  exact HQ.out
end Go.Proofs.YthignlailbekmaaDoor
