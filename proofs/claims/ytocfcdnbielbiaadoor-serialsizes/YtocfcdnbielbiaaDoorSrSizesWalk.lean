import Derived.Test.YtocfcdnbielbiaaDoorSrSizes
import Derived.Test.YtocfcdnbielbiaaDoorSrLives
/-! SerialSizes: the walk. -/
namespace Go.Proofs.YtocfcdnbielbiaaDoor
set_option linter.unusedVariables false
set_option maxRecDepth 20000
open Go.RowKit Go.HeapKit Go.PlainOps
set_option maxHeartbeats 2000000 in
theorem sizes_walk (a : Option Addr) (n c : Nat) (l : List Fn) (aa : Option Addr) (an ac : Nat) (zs : List Int) (fuel : Int) (w : World) (hT : Tabs w) (hS : SeenF w a n l) (hok : ∀ f ∈ l, f.Ok) (hZ : SeenA w aa an zs) (hfu : okI fuel) :
    Calls Tryd.prog 6 #[.agg #[.slice a n c], .slice aa an ac, .int .i64 fuel] w fun e w' => e = .returned (.bool true) ∧ Keeps None w w' := by
  obtain ⟨B, hB⟩ : ∃ B, B = w.heap.size := ⟨_, rfl⟩
  have b1 := heap_alloc_new w (.cells #[.slice a n c] 24)
  have hk1 := Keeps.alloc None w (.cells #[.slice a n c] 24)
  obtain ⟨W, hW⟩ : ∃ W, W = w.alloc (.cells #[.slice a n c] 24) := ⟨_, rfl⟩
  rw [← hW, ← hB] at b1
  rw [← hW] at hk1
  have hev := eval_any a n c l aa an ac zs fuel W (hT.more hk1) (hS.more hk1) hok (hZ.more hk1) hZ.most hfu
  have d0 : W.cell? ⟨B, 0, none⟩ = some (.slice a n c) := (blk_cell b1 0).trans rfl
  have hlv := fun wx (hx : Keeps None w wx) => lives_any fuel hfu wx (hT.more hx)
  have HLV : Hid _ := hlv
  have HX : Hid (Keeps None w W) := hk1
  by_cases he0 : (evalV l zs fuel).2 = 0
  · obtain ⟨z1, z2, z3, z4, z5, z6, z7, z8, z9, z10, z11⟩ := eval_sizes hok hZ.ok he0
    rw [he0] at hev
    unfold valC at hev
    generalize hV : (evalV l zs fuel).1 = V at *
    obtain ⟨v, wk, tk, dp, sp⟩ := V
    simp only at z1 z2 z3 z4 z5 z6 z7 z8 z9 z10 z11 hev
    clear hT hS hok hZ hk1 b1 hlv HLV he0 hV hfu
    have H7 : Hid (tk = 1 ↔ dp = 1) := z7
    have H8 : Hid (tk ≤ 1 → sp = wk) := z8
    clear z7 z8
    go_enter Tryd.func6, Tryd.ntmps6
    go_upto_region 1 with fail
    rw [← hW, ← hB]
    clear hW hB
    go_upto_region 2 with (go_at_call 10; refine hev.mono ?_; rintro _ w2 ⟨rfl, hk2⟩)
    have bV := heap_alloc_new w2 (.cells #[.int .i64 v, .int .i64 wk, .int .i64 tk, .int .i64 dp, .int .i64 sp] 28)
    have hal := Keeps.alloc None w2 (.cells #[.int .i64 v, .int .i64 wk, .int .i64 tk, .int .i64 dp, .int .i64 sp] 28)
    obtain ⟨U, hU⟩ : ∃ U, U = w2.alloc (.cells #[.int .i64 v, .int .i64 wk, .int .i64 tk, .int .i64 dp, .int .i64 sp] 28) := ⟨_, rfl⟩
    obtain ⟨G, hG⟩ : ∃ G, G = w2.heap.size := ⟨_, rfl⟩
    rw [← hU] at hal bV
    rw [← hG] at bV
    rw [← hU, ← hG]
    have x0 := (blk_cell bV 0).trans rfl
    have x1 := (blk_cell bV 1).trans rfl
    have x2 := (blk_cell bV 2).trans rfl
    have x3 := (blk_cell bV 3).trans rfl
    have x4 := (blk_cell bV 4).trans rfl
    have HK : Hid (Keeps None w U) := (HX.out.trans hk2 (fun _ f _ => f)).trans hal (fun _ f _ => f)
    clear hU hG bV hal hk2 hev d0
    by_cases ht1 : tk = 1
    · have hd1 := H7.out.1 ht1
      have hs1 := H8.out (by omega)
      subst ht1 hd1 hs1
      go_wp2_with fail
      go_ret
      exact ⟨rfl, HK.out⟩
    · have hd1 : ¬ dp = 1 := fun e => ht1 (H7.out.2 e)
      have q1 : (tk == 1) = false := by simpa using ht1
      have q2 : (dp == 1) = false := by simpa using hd1
      have q3 : 1 < tk := by omega
      go_wp2_with fail
      go_ret
      exact ⟨rfl, HK.out⟩
  · have hvz := eval_not he0
    rw [hvz] at hev
    unfold valC zeroVal at hev
    simp only at hev
    have heb : ((evalV l zs fuel).2 != 0) = true := by simpa using he0
    generalize (evalV l zs fuel).2 = er at *
    clear hT hS hok hZ hk1 b1 hlv he0 hvz hfu
    go_enter Tryd.func6, Tryd.ntmps6
    go_upto_region 1 with fail
    rw [← hW, ← hB]
    clear hW hB
    go_upto_region 2 with (go_at_call 10; refine hev.mono ?_; rintro _ w2 ⟨rfl, hk2⟩)
    have bV := heap_alloc_new w2 (.cells #[.int .i64 0, .int .i64 0, .int .i64 0, .int .i64 0, .int .i64 0] 28)
    have hal := Keeps.alloc None w2 (.cells #[.int .i64 0, .int .i64 0, .int .i64 0, .int .i64 0, .int .i64 0] 28)
    obtain ⟨U, hU⟩ : ∃ U, U = w2.alloc (.cells #[.int .i64 0, .int .i64 0, .int .i64 0, .int .i64 0, .int .i64 0] 28) := ⟨_, rfl⟩
    obtain ⟨G, hG⟩ : ∃ G, G = w2.heap.size := ⟨_, rfl⟩
    rw [← hU] at hal bV
    rw [← hG] at bV
    rw [← hU, ← hG]
    have x0 := (blk_cell bV 0).trans rfl
    have x1 := (blk_cell bV 1).trans rfl
    have x2 := (blk_cell bV 2).trans rfl
    have x3 := (blk_cell bV 3).trans rfl
    have x4 := (blk_cell bV 4).trans rfl
    have hk : Keeps None w U := (HX.out.trans hk2 (fun _ f _ => f)).trans hal (fun _ f _ => f)
    have hlv := HLV.out U hk
    have HK : Hid (Keeps None w U) := hk
    clear hU hG bV hal hk2 hev d0 hk
    go_wp2_with (go_at_call 19; refine hlv.mono ?_; rintro _ w5 ⟨rfl, hk5⟩)
    go_ret
    exact ⟨rfl, HK.out.trans hk5 (fun _ f _ => f)⟩
end Go.Proofs.YtocfcdnbielbiaaDoor
